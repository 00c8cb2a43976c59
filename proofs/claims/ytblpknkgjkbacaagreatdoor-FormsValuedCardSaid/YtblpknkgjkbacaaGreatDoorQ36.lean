/-
 FormsValued: the walk of the law.
-/
import Derived.BigQuiet
import Derived.Deep.Cut
import Derived.Deep.CutRange
import Derived.Deep.DeepCutAuto
import Derived.Test.YtblpknkgjkbacaaGreatDoorQ35
namespace Go.Proofs.YtblpknkgjkbacaaGreatDoor
set_option linter.unusedVariables false
open Go.RowKit
theorem stream_start {w : World} {L : Value} (hL : ListAt w w.heap.size L) : StreamAt (w.alloc (.cells #[L, .int .i64 0] 25)) w.heap.size 0 :=
  ⟨L, 0, Nat.le_refl _, heap_alloc_new _ _, hL.kept (World.grownBy_alloc _ _ _)⟩
/-- A form's terms, in a row that a stream does not touch. -/
structure FRow (B : Nat) (w : World) (v : Value) (ts : List (ByteArray × Int)) : Prop where
  row : ∃ P, B < P ∧ w.ownsRow P 54 2 v ts.length (ts.flatMap termCells)
  len : ts.length ≤ 3
  good : ∀ t ∈ ts, goodTerm t
theorem FRow.draw {B m : Nat} {w w' : World} {v : Value} {ts : List (ByteArray × Int)} (h : FRow B w v ts) (hd : Drawn B m w w') : FRow B w' v ts := by
  obtain ⟨⟨P, h1, h2⟩, h3, h4⟩ := h
  exact ⟨⟨P, h1, owns_under h2 hd.1 (fun k hk => by cases hk; omega)⟩, h3, h4⟩
theorem FRow.grown {B : Nat} {w w' : World} {v : Value} {ts : List (ByteArray × Int)} (h : FRow B w v ts) (hg : w.grownBy w' none) : FRow B w' v ts := by
  obtain ⟨⟨P, h1, h2⟩, h3, h4⟩ := h
  exact ⟨⟨P, h1, owns_kept h2 hg⟩, h3, h4⟩
theorem FRow.terms {B : Nat} {w : World} {v : Value} {ts : List (ByteArray × Int)} (h : FRow B w v ts) : TermsAt w v ts := by
  obtain ⟨⟨P, h1, h2⟩, h3, h4⟩ := h
  exact terms_of_owns h2 (by omega) h4
/-- A point's slots, in a row that a stream does not touch. -/
structure PRow (B : Nat) (w : World) (v : Value) (ts : List (ByteArray × Int)) : Prop where
  row : ∃ P, B < P ∧ w.ownsRow P 61 2 v ts.length (ts.flatMap termCells)
  len : ts.length ≤ 2
  good : ∀ t ∈ ts, goodTerm t
theorem PRow.draw {B m : Nat} {w w' : World} {v : Value} {ts : List (ByteArray × Int)} (h : PRow B w v ts) (hd : Drawn B m w w') : PRow B w' v ts := by
  obtain ⟨⟨P, h1, h2⟩, h3, h4⟩ := h
  exact ⟨⟨P, h1, owns_under h2 hd.1 (fun k hk => by cases hk; omega)⟩, h3, h4⟩
theorem PRow.grown {B : Nat} {w w' : World} {v : Value} {ts : List (ByteArray × Int)} (h : PRow B w v ts) (hg : w.grownBy w' none) : PRow B w' v ts := by
  obtain ⟨⟨P, h1, h2⟩, h3, h4⟩ := h
  exact ⟨⟨P, h1, owns_kept h2 hg⟩, h3, h4⟩
theorem PRow.terms {B : Nat} {w : World} {v : Value} {ts : List (ByteArray × Int)} (h : PRow B w v ts) : TermsAt w v ts := by
  obtain ⟨⟨P, h1, h2⟩, h3, h4⟩ := h
  exact terms_of_owns h2 (by omega) h4
/-- What the law has in memory: two forms, a sum, a form with another one put in; a point. -/
structure LM (w0 : World) (X Sb Pb : Nat) (c1 c2 : Int) (t1 t2 pt : List (ByteArray × Int)) (f2 f3 : CondD) (v1 v2 vp vs vq : Value) (w : World) : Prop where
  x : w.heap[X]? = some (.cells #[.int .i64 c1, v1] 28 (0, 0))
  y : w.heap[X + 1]? = some (.cells #[.int .i64 c2, v2] 28 (0, 0))
  s : w.heap[Sb]? = some (.cells #[.int .i64 f2.1, vs] 28 (0, 0))
  p : w.heap[Pb]? = some (.cells #[.int .i64 f3.1, vq] 28 (0, 0))
  tx : TermsAt w v1 t1
  ty : TermsAt w v2 t2
  tp : TermsAt w vp pt
  ts : TermsAt w vs f2.2
  tq : TermsAt w vq f3.2
  g : w0.grownBy w none
theorem LM.kept {w0 w w' : World} {X Sb Pb : Nat} {c1 c2 : Int} {t1 t2 pt : List (ByteArray × Int)} {f2 f3 : CondD} {v1 v2 vp vs vq : Value} (h : LM w0 X Sb Pb c1 c2 t1 t2 pt f2 f3 v1 v2 vp vs vq w) (hg : w.grownBy w' none) : LM w0 X Sb Pb c1 c2 t1 t2 pt f2 f3 v1 v2 vp vs vq w' :=
  ⟨heap_keep h.x hg (by simp), heap_keep h.y hg (by simp), heap_keep h.s hg (by simp), heap_keep h.p hg (by simp), h.tx.kept hg, h.ty.kept hg, h.tp.kept hg, h.ts.kept hg, h.tq.kept hg, grownBy_trans h.g hg⟩
/-- A box of its own is set. -/
theorem LM.set {w0 w1 w w' : World} {X Sb Pb Z : Nat} {c1 c2 d : Int} {t1 t2 pt : List (ByteArray × Int)} {f2 f3 : CondD} {v1 v2 vp vs vq : Value} {q : Option Addr} {n k : Nat} {ty : TypeId} (h : LM w0 X Sb Pb c1 c2 t1 t2 pt f2 f3 v1 v2 vp vs vq w) (hZ : w1.heap[Z]? = some (.cells #[.int .i64 d, .slice q n k] ty (0, 0))) (h1 : w1.grownBy w none) (hg : w.grownBy w' (some Z)) (hX : X ≠ Z) (hY : X + 1 ≠ Z) (hS : Sb ≠ Z) (hP : Pb ≠ Z) (h0 : w0.heap.size ≤ Z) : LM w0 X Sb Pb c1 c2 t1 t2 pt f2 f3 v1 v2 vp vs vq w' :=
  ⟨heap_keep h.x hg (by simpa using fun e => hX e.symm), heap_keep h.y hg (by simpa using fun e => hY e.symm), heap_keep h.s hg (by simpa using fun e => hS e.symm), heap_keep h.p hg (by simpa using fun e => hP e.symm), h.tx.later_set hZ h1 hg, h.ty.later_set hZ h1 hg, h.tp.later_set hZ h1 hg, h.ts.later_set hZ h1 hg, h.tq.later_set hZ h1 hg, grown_own h.g hg (fun i hi => by cases hi; exact h0)⟩
/-- What the law asks of Value, of Sum, of Put. -/
theorem valR_law (c : Int) (ts pt : List (ByteArray × Int)) : valR c ts pt = (if firstE [formErr c ts, ptErr ByteArray.empty pt] = 0 then valueOf (coefX pt) c ts else 0, firstE [formErr c ts, ptErr ByteArray.empty pt]) := by
  unfold valR firstE firstE firstE
  by_cases h1 : formErr c ts = 0
  · by_cases h2 : ptErr ByteArray.empty pt = 0
    · simp [h1, h2]
    · simp [h1, h2]
  · simp [h1]
theorem span_in (n : Int) : spanE n (-1000) 1000 = 0 ↔ inB n (-1000) 1000 = true := by
  unfold spanE
  cases inB n (-1000) 1000 <;> simp
theorem span_01 (n l h : Int) : spanE n l h = 0 ∨ spanE n l h = 1 := by
  unfold spanE
  split <;> simp
theorem sumA_law (f g : CondD) (a b : Int) : sumA f a g b = if firstE [formErr f.1 f.2, formErr g.1 g.2, spanE a (-1000) 1000, spanE b (-1000) 1000] = 0 then okForm (formOfX (plusX (plusX (fun _ => 0) a f.2) b g.2) (0 + a * f.1 + b * g.1)) else ((0, []), firstE [formErr f.1 f.2, formErr g.1 g.2, spanE a (-1000) 1000, spanE b (-1000) 1000]) := by
  unfold sumA firstE firstE firstE firstE firstE
  by_cases h1 : formErr f.1 f.2 = 0
  · by_cases h2 : formErr g.1 g.2 = 0
    · rcases span_01 a (-1000) 1000 with h3 | h3
      · rcases span_01 b (-1000) 1000 with h4 | h4
        · simp [h1, h2, h3, h4, (span_in a).1 h3, (span_in b).1 h4]
        · have : inB b (-1000) 1000 = false := by
            cases e : inB b (-1000) 1000 with
            | false => rfl
            | true => rw [(span_in b).2 e] at h4; cases h4
          simp [h1, h2, h3, h4, this]
      · have : inB a (-1000) 1000 = false := by
          cases e : inB a (-1000) 1000 with
          | false => rfl
          | true => rw [(span_in a).2 e] at h3; cases h3
        simp [h1, h2, h3, this]
    · simp [h1, h2]
  · simp [h1]
theorem errs_lit (l : List Int) (T : TypeId) (w : World) (hl : l.length ≤ 1000) :
    Calls Tryz.prog 12 #[.slice (some ⟨w.heap.size, 0, none⟩) l.length l.length] (w.alloc (.cells (l.map (Value.int .i64)).toArray T)) (Gives (.int .i64 (firstE l)) w) :=
  (errsL_any l w.heap.size l.length _ hl (fun j e h => cell_at (n := 0) (heap_alloc_new w _) (by simp [h]))).mono fun e w' ⟨h1, h2⟩ => ⟨h1, by subst h2; exact World.grownBy_alloc _ _ _⟩
theorem putA_law (f g : CondD) (x : ByteArray) : putA f x g = if firstE [formErr f.1 f.2, (if nameB x = true then 0 else 5), formErr g.1 g.2] = 0 then okForm (formOfX (plusX (delX (oneF f.2) x) (coefX f.2 x) g.2) (0 + 1 * f.1 + coefX f.2 x * g.1)) else ((0, []), firstE [formErr f.1 f.2, (if nameB x = true then 0 else 5), formErr g.1 g.2]) := by
  unfold putA firstE firstE firstE firstE
  by_cases h1 : formErr f.1 f.2 = 0
  · cases hx : nameB x with
    | false => simp [h1]
    | true =>
      by_cases h2 : formErr g.1 g.2 = 0
      · simp [h1, h2]
      · simp [h1, h2]
  · simp [h1]
theorem firstz2 {a b : Int} (h : firstE [a, b] = 0) : a = 0 ∧ b = 0 := by
  unfold firstE firstE firstE at h
  by_cases ha : a = 0
  · by_cases hb : b = 0
    · exact ⟨ha, hb⟩
    · simp [ha, hb] at h
  · simp [ha] at h
theorem firstz3 {a b c : Int} (h : firstE [a, b, c] = 0) : a = 0 ∧ b = 0 ∧ c = 0 := by
  by_cases ha : a = 0
  · have h2 : firstE [b, c] = 0 := by rw [firstE, if_pos ha] at h; exact h
    exact ⟨ha, firstz2 h2⟩
  · rw [firstE, if_neg ha] at h
    exact absurd h ha
theorem firstz4 {a b c d : Int} (h : firstE [a, b, c, d] = 0) : a = 0 ∧ b = 0 ∧ c = 0 ∧ d = 0 := by
  by_cases ha : a = 0
  · have h2 : firstE [b, c, d] = 0 := by rw [firstE, if_pos ha] at h; exact h
    exact ⟨ha, firstz3 h2⟩
  · rw [firstE, if_neg ha] at h
    exact absurd h ha
theorem in_range {n : Int} (h : inB n (-1000) 1000 = true) : -1000 ≤ n ∧ n ≤ 1000 := by
  unfold inB at h
  simpa using h
set_option maxRecDepth 100000 in
set_option maxHeartbeats 8000000 in
theorem formsValued_any (L : Value) (w : World) (hL : ListAt w w.heap.size L) :
    Calls Tryz.prog 3 #[L] w (Gives (.bool true) w) := by
  have HSt := Lib.hid (stream_start hL)
  obtain ⟨pL, nL, cL, rfl⟩ : ∃ p n c, L = .slice p n c := by rcases hL with h | ⟨b, off, len, cap, h, _⟩ <;> exact ⟨_, _, _, h⟩
  clear hL
  go_enter Tryz.func3, Tryz.ntmps3
  go_upto_region 2 with fail
  have hB0 : w.heap.size < (w.alloc (.cells #[.slice pL nL cL, .int .i64 0] 25)).heap.size := by rw [World.size_alloc]; omega
  have HG0 := Lib.hid (World.grownBy_alloc w (.cells #[.slice pL nL cL, .int .i64 0] 25) none)
  generalize w.alloc (.cells #[.slice pL nL cL, .int .i64 0] 25) = w0 at *
  generalize hB : w.heap.size = B at *
  go_upto_region 3 with (first
    | (go_at_call 4; first
        | (refine (anyForm_any B 0 w0 HSt.out (by omega)).mono ?_; rintro e w1 ⟨c1, p1, n1, k1, t1, rfl, hl1, hn1, hc1, hr1, hg1, hd1⟩; have HD1 := Lib.hid hd1; have HF1 := Lib.hid (⟨⟨_, hB0, by rw [hl1]; unfold TermRow at hr1; rw [hl1] at hr1; exact hr1⟩, by omega, hg1⟩ : FRow B w1 (.slice p1 n1 k1) t1); have HC1 := Lib.hid hc1; have HN1 := Lib.hid hl1; clear hl1 hn1 hc1 hr1 hg1 hd1)
        | (refine (anyForm_any B (0 + 10) w1 HD1.out.2 (by omega)).mono ?_; rintro e w2 ⟨c2, p2, n2, k2, t2, rfl, hl2, hn2, hc2, hr2, hg2, hd2⟩; have HD2 := Lib.hid (HD1.out.trans hd2); have HF2 := Lib.hid (⟨⟨w1.heap.size, by have := HD1.out.1.size; omega, by rw [hl2]; unfold TermRow at hr2; rw [hl2] at hr2; exact hr2⟩, by omega, hg2⟩ : FRow B w2 (.slice p2 n2 k2) t2); have HF1b := Lib.hid (HF1.out.draw hd2); have HC2 := Lib.hid hc2; have HN2 := Lib.hid hl2; clear hl2 hn2 hc2 hr2 hg2 hd2))
    | (go_at_call 5; go_must (refine (aPoint_any B (0 + 10 + 10) (-5) 9 w2 HD2.out.2 (by omega) (by omega) (by omega) (by omega)).mono ?_; rintro e w3 ⟨pv, pt, rfl, hp, hpl⟩; have HD3 := Lib.hid (HD2.out.trans hp.drawn); have HPt := Lib.hid (⟨⟨_, by have := HD2.out.1.size; omega, hp.row⟩, hpl, hp.good⟩ : PRow B w3 pv pt); have HF1c := Lib.hid (HF1b.out.draw hp.drawn); have HF2c := Lib.hid (HF2.out.draw hp.drawn); obtain ⟨px, cx, hpv⟩ := own_form hp.row; subst hpv; clear hp hpl)))
  obtain ⟨hX, hY, hg2⟩ := two_new w3 (.cells #[.int .i64 c1, .slice p1 n1 k1] 28) (.cells #[.int .i64 c2, .slice p2 n2 k2] 28) _ rfl
  generalize (w3.alloc (.cells #[.int .i64 c1, .slice p1 n1 k1] 28)).alloc (.cells #[.int .i64 c2, .slice p2 n2 k2] 28) = w4 at *
  have hBX : B < w3.heap.size := by have := HD3.out.1.size; omega
  have HX4 := Lib.hid hX
  have HY4 := Lib.hid hY
  have HD4 := Lib.hid (HD3.out.grown hg2)
  have HPt4 := Lib.hid (HPt.out.grown hg2)
  have HF1d := Lib.hid (HF1c.out.grown hg2)
  have HF2d := Lib.hid (HF2c.out.grown hg2)
  generalize hXe : w3.heap.size = X at *
  have HBX := Lib.hid hBX
  have HB0 := Lib.hid hB0
  have HBw := Lib.hid hB
  clear hX hY hg2 HD1 HD2 HD3 HF1 HF1b HF1c HF2 HF2c HPt HSt hXe hBX hB0 hB
  go_upto_region 4 with fail
  refine (pick_lit' B (0 + 10 + 10 + 10) w4.heap.size [1, 2, -3, 0, 1000, 1001, -1000] _ w4 rfl HD4.out.2 (by omega) (by simp) (by simp)).mono ?_
  rintro e w5 ⟨a, ha, rfl, hd⟩
  have HD5 := Lib.hid (HD4.out.trans hd)
  have HX5 := Lib.hid (heap_keep HX4.out hd.1 (by have := HBX.out; simp; omega))
  have HY5 := Lib.hid (heap_keep HY4.out hd.1 (by have := HBX.out; simp; omega))
  have HPt5 := Lib.hid (HPt4.out.draw hd)
  have HF1e := Lib.hid (HF1d.out.draw hd)
  have HF2e := Lib.hid (HF2d.out.draw hd)
  clear hd ha
  go_upto_region 4 with fail
  refine (pick_lit' B (0 + 10 + 10 + 10 + 1) w5.heap.size [1, -1, 4, 0, -1001] _ w5 rfl HD5.out.2 (by omega) (by simp) (by simp)).mono ?_
  rintro e w6 ⟨b, hb, rfl, hd⟩
  have HD6 := Lib.hid (HD5.out.trans hd)
  have HX6 := Lib.hid (heap_keep HX5.out hd.1 (by have := HBX.out; simp; omega))
  have HY6 := Lib.hid (heap_keep HY5.out hd.1 (by have := HBX.out; simp; omega))
  have HPt6 := Lib.hid (HPt5.out.draw hd)
  have HF1f := Lib.hid (HF1e.out.draw hd)
  have HF2f := Lib.hid (HF2e.out.draw hd)
  clear hd hb
  go_upto_region 4 with fail
  refine (some_lit' B (0 + 10 + 10 + 10 + 1 + 1) w6.heap.size [⟨#[105]⟩, ⟨#[106]⟩, ⟨#[105]⟩, ⟨#[122, 122]⟩, ⟨#[65]⟩, ⟨#[102, 111, 114]⟩] _ w6 rfl HD6.out.2 (by omega) (by simp) (by simp)).mono ?_
  rintro e w7 ⟨x, hx, rfl, hd⟩
  have HD7 := Lib.hid (HD6.out.trans hd)
  have HX7 := Lib.hid (heap_keep HX6.out hd.1 (by have := HBX.out; simp; omega))
  have HY7 := Lib.hid (heap_keep HY6.out hd.1 (by have := HBX.out; simp; omega))
  have HPt7 := Lib.hid (HPt6.out.draw hd)
  have HF1g := Lib.hid (HF1f.out.draw hd)
  have HF2g := Lib.hid (HF2f.out.draw hd)
  have HXs := Lib.hid (show x.size ≤ maxLen by simp at hx; unfold maxLen; rcases hx with rfl | rfl | rfl | rfl | rfl | rfl <;> decide)
  clear hd hx
  go_upto_region 4 with fail
  have HT1 := Lib.hid HF1g.out.terms
  have HT2 := Lib.hid HF2g.out.terms
  have HTp := Lib.hid HPt7.out.terms
  have hpl := HPt7.out.len
  have HW7 := Lib.hid (grown_own HG0.out HD7.out.1 (fun i hi => by have := HBw.out; cases hi; omega))
  have hc1 : -9223372036854775808 ≤ c1 ∧ c1 ≤ 9223372036854775807 := by have := HC1.out; unfold small at this; omega
  have hc2 : -9223372036854775808 ≤ c2 ∧ c2 ≤ 9223372036854775807 := by have := HC2.out; unfold small at this; omega
  obtain ⟨_, _, e1, -⟩ := HT1.out
  obtain ⟨-, e1', -⟩ := Value.slice.inj e1
  obtain ⟨_, _, e2, -⟩ := HT2.out
  obtain ⟨-, e2', -⟩ := Value.slice.inj e2
  subst e1' e2'
  have HPL := Lib.hid hpl
  clear HD4 HD5 HD6 HD7 HX4 HX5 HX6 HY4 HY5 HY6 HPt4 HPt5 HPt6 HPt7 HF1d HF1e HF1f HF1g HF2d HF2e HF2f HF2g HC1 HC2 HN1 HN2 HG0 e1 e2
  generalize hR1 : valR c1 t1 pt = R1 at *
  generalize hR2 : sumA (c1, t1) a (c2, t2) b = R2 at *
  generalize hR3 : putA (c1, t1) x (c2, t2) = R3 at *
  have HR1 := Lib.hid hR1
  have HR2 := Lib.hid hR2
  have HR3 := Lib.hid hR3
  clear hR1 hR2 hR3
  obtain ⟨x0, x1, xf⟩ := cell_of_two HX7.out
  go_upto_region 5 with fail
  have hq := value_nest c1 t1 pt _ _ w7 HT1.out HTp.out (by omega)
  rw [HR1.out] at hq
  refine hq.mono ?_
  rintro e w8 ⟨rfl, hg⟩
  clear hq x0 x1 xf
  have HX8 := Lib.hid (heap_keep HX7.out hg (by simp))
  have HY8 := Lib.hid (heap_keep HY7.out hg (by simp))
  have HT18 := Lib.hid (HT1.out.kept hg)
  have HT28 := Lib.hid (HT2.out.kept hg)
  have HTp8 := Lib.hid (HTp.out.kept hg)
  have HW8 := Lib.hid (grownBy_trans HW7.out hg)
  clear hg HX7 HY7 HT1 HT2 HTp HW7
  go_upto_region 5 with fail
  obtain ⟨x0, x1, xf⟩ := cell_of_two HX8.out
  obtain ⟨y0, y1, yf⟩ := cell_of_two HY8.out
  go_upto_region 6 with fail
  have hq := sum_nest (c1, t1) (c2, t2) a b _ _ w8 HT18.out HT28.out hc1 hc2
  rw [HR2.out] at hq
  refine hq.mono ?_
  rintro e w9 ⟨sv, rfl, hsv, hg⟩
  clear hq x0 x1 xf y0 y1 yf
  obtain ⟨ps, cs, rfl, -⟩ := id hsv
  have HX9 := Lib.hid (heap_keep HX8.out hg (by simp))
  have HY9 := Lib.hid (heap_keep HY8.out hg (by simp))
  have HT19 := Lib.hid (HT18.out.kept hg)
  have HT29 := Lib.hid (HT28.out.kept hg)
  have HTp9 := Lib.hid (HTp8.out.kept hg)
  have HW9 := Lib.hid (grownBy_trans HW8.out hg)
  have HSv := Lib.hid hsv
  clear hg hsv HX8 HY8 HT18 HT28 HTp8 HW8
  go_upto_region 6 with fail
  have hg := World.grownBy_alloc w9 (.cells #[.int .i64 R2.1.1, .slice ps R2.1.2.length cs] 28) none
  have HSb := Lib.hid (heap_alloc_new w9 (.cells #[.int .i64 R2.1.1, .slice ps R2.1.2.length cs] 28))
  have HXa := Lib.hid (heap_keep HX9.out hg (by simp))
  have HYa := Lib.hid (heap_keep HY9.out hg (by simp))
  have HT1a := Lib.hid (HT19.out.kept hg)
  have HT2a := Lib.hid (HT29.out.kept hg)
  have HTpa := Lib.hid (HTp9.out.kept hg)
  have HWa := Lib.hid (grownBy_trans HW9.out hg)
  have HSa := Lib.hid (HSv.out.kept hg)
  clear hg HX9 HY9 HT19 HT29 HTp9 HW9 HSv
  generalize w9.heap.size = Sb at *
  generalize w9.alloc (.cells #[.int .i64 R2.1.1, .slice ps R2.1.2.length cs] 28) = wa at *
  obtain ⟨x0, x1, xf⟩ := cell_of_two HXa.out
  obtain ⟨y0, y1, yf⟩ := cell_of_two HYa.out
  go_upto_region 7 with fail
  have hq := put_nest (c1, t1) (c2, t2) x _ _ wa HT1a.out HT2a.out HXs.out
  rw [HR3.out] at hq
  refine hq.mono ?_
  rintro e wb ⟨qv, rfl, hqv, hg⟩
  clear hq x0 x1 xf y0 y1 yf
  obtain ⟨pq, cq, rfl, -⟩ := id hqv
  have HXb := Lib.hid (heap_keep HXa.out hg (by simp))
  have HYb := Lib.hid (heap_keep HYa.out hg (by simp))
  have HSbb := Lib.hid (heap_keep HSb.out hg (by simp))
  have HT1b := Lib.hid (HT1a.out.kept hg)
  have HT2b := Lib.hid (HT2a.out.kept hg)
  have HTpb := Lib.hid (HTpa.out.kept hg)
  have HSab := Lib.hid (HSa.out.kept hg)
  have HWb := Lib.hid (grownBy_trans HWa.out hg)
  have HQv := Lib.hid hqv
  clear hg hqv HXa HYa HT1a HT2a HTpa HWa HSa HSb
  go_upto_region 7 with fail
  have hg := World.grownBy_alloc wb (.cells #[.int .i64 R3.1.1, .slice pq R3.1.2.length cq] 28) none
  have HPb := Lib.hid (heap_alloc_new wb (.cells #[.int .i64 R3.1.1, .slice pq R3.1.2.length cq] 28))
  have HX := Lib.hid (heap_keep HXb.out hg (by simp))
  have HY := Lib.hid (heap_keep HYb.out hg (by simp))
  have HS := Lib.hid (heap_keep HSbb.out hg (by simp))
  have HT1 := Lib.hid (HT1b.out.kept hg)
  have HT2 := Lib.hid (HT2b.out.kept hg)
  have HTp := Lib.hid (HTpb.out.kept hg)
  have HTs := Lib.hid (HSab.out.kept hg)
  have HTq := Lib.hid (HQv.out.kept hg)
  have HW := Lib.hid (grownBy_trans HWb.out hg)
  clear hg HXb HYb HT1b HT2b HTpb HWb HQv HSbb HSab
  generalize wb.heap.size = Pb at *
  generalize wb.alloc (.cells #[.int .i64 R3.1.1, .slice pq R3.1.2.length cq] 28) = wc at *
  have HM : Hid (LM w X Sb Pb c1 c2 t1 t2 pt R2.1 R3.1 (.slice p1 t1.length k1) (.slice p2 t2.length k2) (.slice px pt.length cx) (.slice ps R2.1.2.length cs) (.slice pq R3.1.2.length cq) wc) := ⟨HX.out, HY.out, HS.out, HPb.out, HT1.out, HT2.out, HTp.out, HTs.out, HTq.out, HW.out⟩
  clear HX HY HS HPb HT1 HT2 HTp HTs HTq HW
  obtain ⟨x0, x1, xf⟩ := cell_of_two HM.out.x
  obtain ⟨y0, y1, yf⟩ := cell_of_two HM.out.y
  have HS0 : Hid ((fun W => wc.grownBy W none) wc.drew) := grown_drew wc none
  refine region_late (n := 4) (S := fun W => wc.grownBy W none) (by kernel_rfl) ⟨by kernel_rfl, by kernel_rfl, by kernel_rfl, by decide⟩ ?_
  refine late_take (i := 0) (v := ?vf_0) ⟨by kernel_rfl, by kernel_rfl, by kernel_rfl, by decide⟩ rfl (by decide +kernel) (by decide +kernel) (by decide +kernel) (fun _ _ _ h => h) (Or.inl ⟨by rfl, ?hf_0⟩) HS0.out ?rf_0
  case hf_0 =>
    intro W hW
    have s0 := World.grownBy.cell hW x0 (by simp)
    have s1 := World.grownBy.cell hW x1 (by simp)
    have s2 := World.grownBy.cell hW y0 (by simp)
    have s3 := World.grownBy.cell hW y1 (by simp)
    go_simp
    try with_reducible rfl
  go_frame
  refine late_take (i := 2) (v := ?vf_2) ⟨by kernel_rfl, by kernel_rfl, by kernel_rfl, by decide⟩ rfl (by decide +kernel) (by decide +kernel) (by decide +kernel) (fun _ _ _ h => h) (Or.inl ⟨by rfl, ?hf_2⟩) HS0.out ?rf_2
  case hf_2 =>
    intro W hW
    have s0 := World.grownBy.cell hW x0 (by simp)
    have s1 := World.grownBy.cell hW x1 (by simp)
    have s2 := World.grownBy.cell hW y0 (by simp)
    have s3 := World.grownBy.cell hW y1 (by simp)
    go_simp
    try with_reducible rfl
  go_frame
  refine late_one (i := 1) rfl (by kernel_rfl) (by kernel_rfl) (fun K hK => ?_)
  have HK := Lib.hid hK
  clear hK
  have HMd := Lib.hid (HM.out.kept HS0.out)
  obtain ⟨_, _, e1, hl1, hcl1⟩ := HMd.out.tx
  cases e1
  refine op_enter (by rfl) 11 #[.agg #[.int .i64 c1, .slice p1 t1.length k1]] (by kernel_rfl) ((formFault_at c1 t1 p1 k1 _ hl1 hcl1).mono ?_)
  rintro e wd ⟨rfl, hg⟩
  have HSd := Lib.hid (grownBy_trans HS0.out hg)
  refine ⟨_, rfl, HK.out _ _ HSd.out ?_⟩
  clear HK hg hcl1 hl1 HMd
  go_frame
  refine late_one (i := 3) rfl (by kernel_rfl) (by kernel_rfl) (fun K hK => ?_)
  have HK := Lib.hid hK
  clear hK
  have HMe := Lib.hid (HM.out.kept HSd.out)
  obtain ⟨_, _, e2, hl2, hcl2⟩ := HMe.out.ty
  cases e2
  refine op_enter (by rfl) 11 #[.agg #[.int .i64 c2, .slice p2 t2.length k2]] (by kernel_rfl) ((formFault_at c2 t2 p2 k2 _ hl2 hcl2).mono ?_)
  rintro e we ⟨rfl, hg⟩
  have HSe := Lib.hid (grownBy_trans HSd.out hg)
  refine ⟨_, rfl, HK.out _ _ HSe.out ?_⟩
  clear HK hg hcl2 hl2 HMe
  go_frame
  refine late_done (by decide +kernel) ?_
  simp only [List.drop_succ_cons, List.drop_zero]
  have HM7 := Lib.hid (HM.out.kept HSe.out)
  clear HSe HSd HS0 HM x0 x1 xf y0 y1 yf
  go_upto_region 8 with fail
  go_upto_region 9 with fail
  refine (pointFault_any pt _ _ HM7.out.tp).mono ?_
  rintro e w8' ⟨rfl, hg⟩
  have HM8 := Lib.hid (HM7.out.kept hg)
  clear hg HM7
  go_upto_region 9 with fail
  refine (errs_lit [formErr c1 t1, ptErr ByteArray.empty pt] _ w8' (by simp)).mono ?_
  rintro e w9' ⟨rfl, hg⟩
  have HM9 := Lib.hid (HM8.out.kept hg)
  clear hg HM8
  have HL1 := Lib.hid (HR1.out.symm.trans (valR_law c1 t1 pt))
  have HZ1 := Lib.hid (fun h => firstz2 (a := formErr c1 t1) (b := ptErr ByteArray.empty pt) h)
  generalize firstE [formErr c1 t1, ptErr ByteArray.empty pt] = E1 at *
  go_upto_region 9 with fail
  go_upto_region 10 with fail
  refine (spanFault_any a (-1000) 1000 _).mono ?_
  rintro e wsa ⟨rfl, rfl⟩
  go_upto_region 10 with fail
  refine (spanFault_any b (-1000) 1000 _).mono ?_
  rintro e wsb ⟨rfl, rfl⟩
  go_upto_region 10 with fail
  refine (errs_lit [formErr c1 t1, formErr c2 t2, spanE a (-1000) 1000, spanE b (-1000) 1000] _ w9' (by simp)).mono ?_
  rintro e w10' ⟨rfl, hg⟩
  have HM10 := Lib.hid (HM9.out.kept hg)
  clear hg HM9
  have HL2 := Lib.hid (HR2.out.symm.trans (sumA_law (c1, t1) (c2, t2) a b))
  have HZ2 := Lib.hid (fun h => firstz4 (a := formErr c1 t1) (b := formErr c2 t2) (c := spanE a (-1000) 1000) (d := spanE b (-1000) 1000) h)
  simp only at HL2
  generalize firstE [formErr c1 t1, formErr c2 t2, spanE a (-1000) 1000, spanE b (-1000) 1000] = E2 at *
  go_upto_region 10 with fail
  go_upto_region 11 with fail
  refine (nameFault_any x _ HXs.out).mono ?_
  generalize hN : (if nameB x = true then (0 : Int) else 5) = N
  have HN := Lib.hid hN
  clear hN
  rintro e w11' ⟨rfl, hg⟩
  have HM11 := Lib.hid (HM10.out.kept hg)
  clear hg HM10
  go_upto_region 11 with fail
  refine (errs_lit [formErr c1 t1, N, formErr c2 t2] _ w11' (by simp)).mono ?_
  rintro e w12' ⟨rfl, hg⟩
  have HM12 := Lib.hid (HM11.out.kept hg)
  clear hg HM11
  have hlaw := HR3.out.symm.trans (putA_law (c1, t1) (c2, t2) x)
  rw [HN.out] at hlaw
  have HL3 := Lib.hid hlaw
  clear hlaw
  have HZ3 := Lib.hid (fun h => firstz3 (a := formErr c1 t1) (b := N) (c := formErr c2 t2) h)
  simp only at HL3
  generalize firstE [formErr c1 t1, N, formErr c2 t2] = E3 at *
  clear HR1 HR2 HR3
  go_upto_region 13 with fail
  obtain ⟨hz1, hz2, hzg⟩ := two_new w12' (.cells #[.int .i64 0, .slice none 0 0] 28) (.cells #[.int .i64 0, .slice none 0 0] 28) _ rfl
  generalize (w12'.alloc (.cells #[.int .i64 0, .slice none 0 0] 28)).alloc (.cells #[.int .i64 0, .slice none 0 0] 28) = wm at *
  have HM := Lib.hid (HM12.out.kept hzg)
  have HA1 := Lib.hid hz1
  have HA2 := Lib.hid hz2
  have HLt : Hid (X + 1 < w12'.heap.size ∧ Sb < w12'.heap.size ∧ Pb < w12'.heap.size ∧ w.heap.size ≤ w12'.heap.size) := ⟨(Array.getElem?_eq_some_iff.1 HM12.out.y).1, (Array.getElem?_eq_some_iff.1 HM12.out.s).1, (Array.getElem?_eq_some_iff.1 HM12.out.p).1, HM12.out.g.size⟩
  clear hz1 hz2 hzg HM12
  generalize w12'.heap.size = Z at *
  clear hpl
  have HPl : Hid (pt.length ≤ 2) := HPL.out
  by_cases h1 : E1 = 0
  · subst h1
    obtain ⟨q1, q2⟩ := HZ1.out rfl
    have HRa : Hid (R1.1 = valueOf (coefX pt) c1 t1) := by show _ = _; rw [HL1.out]; simp
    have HRb : Hid (R1.2 = 0) := by show _ = _; rw [HL1.out]
    have H1 := Lib.hid q1
    have H1p := Lib.hid q2
    clear q1 q2
    obtain ⟨x0, x1, xf⟩ := cell_of_two HM.out.x
    go_upto_region 15 with fail
    refine (valueIn_any c1 t1 pt _ _ wm HM.out.tx HM.out.tp (by have := HPl.out; omega) H1.out H1p.out).mono ?_
    rintro e wn ⟨rfl, hg⟩
    clear x0 x1 xf
    have HMn := Lib.hid (HM.out.kept hg)
    have HA1n := Lib.hid (heap_keep HA1.out hg (by simp))
    have HA2n := Lib.hid (heap_keep HA2.out hg (by simp))
    clear hg HM HA1 HA2 H1 H1p
    go_upto_region 15 with fail
    by_cases h2 : E2 = 0
    case neg =>
      have h2b : (E2 == 0) = false := by simpa using h2
      have HR2a : Hid (R2.1 = (0, [])) := by show _ = _; rw [HL2.out, if_neg h2]
      have HR2b : Hid (R2.2 = E2) := by show _ = _; rw [HL2.out, if_neg h2]
      clear h2
      go_upto_region 20 with fail
      generalize hwo : wn = wo at *
      have HMo := Lib.hid HMn.out
      have HAo : Hid (∃ v, wo.heap[Z]? = some (.cells #[.int .i64 ((0, []) : CondD).1, v] 28 (0, 0)) ∧ TermsAt wo v ((0, []) : CondD).2) := ⟨_, HA1n.out, terms_nil _ _ _⟩
      have HA2o := Lib.hid HA2n.out
      clear HMn HA1n HA2n hwo
      by_cases h5 : E3 = 0
      case neg =>
        have h5b : (E3 == 0) = false := by simpa using h5
        have HR3a : Hid (R3.1 = (0, [])) := by show _ = _; rw [HL3.out, if_neg h5]
        have HR3b : Hid (R3.2 = E3) := by show _ = _; rw [HL3.out, if_neg h5]
        clear h5
        go_upto_region 25 with fail
        generalize hwt : wo = wt at *
        have HMt := Lib.hid HMo.out
        have HAt := Lib.hid HAo.out
        have HPt : Hid (∃ v, wt.heap[Z + 1]? = some (.cells #[.int .i64 ((0, []) : CondD).1, v] 28 (0, 0)) ∧ TermsAt wt v ((0, []) : CondD).2) := ⟨_, HA2o.out, terms_nil _ _ _⟩
        clear HMo HAo HA2o hwt
        obtain ⟨s0, s1, sf⟩ := cell_of_two HMt.out.s
        obtain ⟨p0, p1', pf⟩ := cell_of_two HMt.out.p
        obtain ⟨va, ha1, ha2⟩ := HAt.out
        obtain ⟨vp', hp1, hp2⟩ := HPt.out
        obtain ⟨pa, ca, rfl, -⟩ := id ha2
        obtain ⟨pp, cp, rfl, -⟩ := id hp2
        obtain ⟨z0, z1, zf⟩ := cell_of_two ha1
        obtain ⟨y0, y1, yf⟩ := cell_of_two hp1
        have b1 : (R1.2 == 0) = true := by simp [HRb.out]
        have b2 : (R1.1 == (valueOf (coefX pt) c1 t1)) = true := by simp [HRa.out]
        have b3 : (R2.2 == E2) = true := by simp [HR2b.out]
        have b4 : (R3.2 == E3) = true := by simp [HR3b.out]
        have HA2t := Lib.hid ha2
        have HP2t := Lib.hid hp2
        have HP1t := Lib.hid hp1
        have e1 : eqForm R2.1 ((0, []) : CondD) = true := by rw [HR2a.out]; simp [eqForm]
        have e2 : eqForm R3.1 ((0, []) : CondD) = true := by rw [HR3a.out]; simp [eqForm]
        have HE1 := Lib.hid e1
        have HE2 := Lib.hid e2
        clear ha1 ha2 hp1 hp2 e1 e2 HR2a HR2b HR3a HR3b HRa HRb
        go_wp2_with fail
        refine (sameForm_any R2.1 ((0, []) : CondD) _ _ _ HMt.out.ts HA2t.out).mono ?_
        rintro e wu ⟨rfl, hg⟩
        rw [HE1.out]
        clear s0 s1 sf p0 p1' pf z0 z1 zf y0 y1 yf
        have HMu := Lib.hid (HMt.out.kept hg)
        have HP2u := Lib.hid (HP2t.out.kept hg)
        obtain ⟨p0, p1', pf⟩ := cell_of_two HMu.out.p
        obtain ⟨y0, y1, yf⟩ := cell_of_two (heap_keep HP1t.out hg (by simp))
        clear hg
        go_wp2_with fail
        refine (sameForm_any R3.1 ((0, []) : CondD) _ _ _ HMu.out.tq HP2u.out).mono ?_
        rintro e wv ⟨rfl, hg⟩
        rw [HE2.out]
        clear p0 p1' pf y0 y1 yf
        have HGv := Lib.hid (grownBy_trans HMu.out.g hg)
        clear hg
        go_wp2_with fail
        refine (nested_any _).mono ?_
        rintro e wx ⟨rfl, hg⟩
        have HGx := Lib.hid (grownBy_trans HGv.out hg)
        clear hg
        go_wp2
        go_ret
        exact ⟨rfl, HGx.out⟩
      case pos =>
        subst h5
        obtain ⟨q1, q2, q3⟩ := HZ3.out rfl
        have hnx : nameB x = true := by
          cases e : nameB x with
          | true => rfl
          | false =>
            have h9 := HN.out
            rw [e, q2] at h9
            simp at h9
        have HSu3 : Hid (R3 = okForm (formOfX (plusX (delX (oneF t1) x) (coefX t1 x) t2) (0 + 1 * c1 + coefX t1 x * c2))) := by show _ = _; rw [HL3.out]; exact if_pos rfl
        obtain ⟨x0, x1, xf⟩ := cell_of_two HMo.out.x
        obtain ⟨y0, y1, yf⟩ := cell_of_two HMo.out.y
        have H1 := Lib.hid q1
        have H2 := Lib.hid q3
        have HNx := Lib.hid hnx
        clear q1 q2 q3 hnx
        go_upto_region 22 with fail
        have hq := putOf_any c1 c2 t1 t2 x _ _ wo HMo.out.tx HMo.out.ty H1.out H2.out HNx.out
        generalize hGG : formOfX (plusX (delX (oneF t1) x) (coefX t1 x) t2) (0 + 1 * c1 + coefX t1 x * c2) = G at *
        refine hq.mono ?_
        rintro e wp ⟨v, rfl, hv, hg⟩
        clear hq hGG x0 x1 xf y0 y1 yf H1 H2 HNx
        obtain ⟨pv, cv, rfl, -⟩ := id hv
        have HV := Lib.hid hv
        have HGp := Lib.hid hg
        have HMp := Lib.hid (HMo.out.kept hg)
        have HAp : Hid (∃ v, wp.heap[Z]? = some (.cells #[.int .i64 (((0, []) : CondD)).1, v] 28 (0, 0)) ∧ TermsAt wp v (((0, []) : CondD)).2) := by
          obtain ⟨u, u1, u2⟩ := HAo.out
          exact ⟨u, heap_keep u1 hg (by simp), u2.kept hg⟩
        have HA2p := Lib.hid (heap_keep HA2o.out hg (by simp))
        clear hg hv HMo HAo
        obtain ⟨z0, z1, zf⟩ := cell_of_two HA2p.out
        go_upto_region 22 with fail
        obtain ⟨f1, f2⟩ := two_set HA2p.out (.int .i64 G.1) (.slice pv G.2.length cv)
        have HM' := Lib.hid (HMp.out.set HA2o.out HGp.out f2 (by have := HLt.out; omega) (by have := HLt.out; omega) (by have := HLt.out; omega) (by have := HLt.out; omega) (by have := HLt.out; omega))
        have HA2' := Lib.hid f1
        have HA' : Hid (∃ v, ((wp.setCell ⟨Z + 1, 0, none⟩ (.int .i64 G.1)).setCell ⟨Z + 1, 1, none⟩ (.slice pv G.2.length cv)).heap[Z]? = some (.cells #[.int .i64 (((0, []) : CondD)).1, v] 28 (0, 0)) ∧ TermsAt ((wp.setCell ⟨Z + 1, 0, none⟩ (.int .i64 G.1)).setCell ⟨Z + 1, 1, none⟩ (.slice pv G.2.length cv)) v (((0, []) : CondD)).2) := by
          obtain ⟨u, u1, u2⟩ := HAp.out
          exact ⟨u, heap_keep u1 f2 (by simp), u2.later_set HA2o.out HGp.out f2⟩
        have HV' : Hid (TermsAt _ (.slice pv G.2.length cv) G.2) := HV.out.later_set HA2o.out HGp.out f2
        clear z0 z1 zf f1 f2 HMp HAp HA2p HV HA2o HGp
        generalize (wp.setCell ⟨Z + 1, 0, none⟩ (.int .i64 G.1)).setCell ⟨Z + 1, 1, none⟩ (.slice pv G.2.length cv) = wq at *
        obtain ⟨z0, z1, zf⟩ := cell_of_two HA2'.out
        go_upto_region 23 with fail
        obtain ⟨_, _, e9, hl9, hc9⟩ := HV'.out
        cases e9
        refine (formFault_at G.1 G.2 pv cv wq hl9 hc9).mono ?_
        rintro e wr ⟨rfl, hg⟩
        clear z0 z1 zf hl9 hc9
        have HMr := Lib.hid (HM'.out.kept hg)
        have HA2r := Lib.hid (heap_keep HA2'.out hg (by simp))
        have HVr := Lib.hid (HV'.out.kept hg)
        have HAr : Hid (∃ v, wr.heap[Z]? = some (.cells #[.int .i64 (((0, []) : CondD)).1, v] 28 (0, 0)) ∧ TermsAt wr v (((0, []) : CondD)).2) := by
          obtain ⟨u, u1, u2⟩ := HA'.out
          exact ⟨u, heap_keep u1 hg (by simp), u2.kept hg⟩
        clear hg HM' HA' HA2' HV'
        by_cases h6 : formErr G.1 G.2 = 0
        case pos =>
          have HR3a : Hid (R3.1 = G) := by show _ = _; rw [HSu3.out]; unfold okForm; rw [if_neg (by simp [h6])]
          have HR3b : Hid (R3.2 = 0) := by show _ = _; rw [HSu3.out]; unfold okForm; rw [if_neg (by simp [h6])]
          rw [h6]
          clear h6
          go_upto_region 25 with fail
          generalize hwt : wr = wt at *
          have HMt := Lib.hid HMr.out
          have HAt := Lib.hid HAr.out
          have HPt : Hid (∃ v, wt.heap[Z + 1]? = some (.cells #[.int .i64 G.1, v] 28 (0, 0)) ∧ TermsAt wt v G.2) := ⟨_, HA2r.out, HVr.out⟩
          clear HMr HAr HA2r HVr hwt
          obtain ⟨s0, s1, sf⟩ := cell_of_two HMt.out.s
          obtain ⟨p0, p1', pf⟩ := cell_of_two HMt.out.p
          obtain ⟨va, ha1, ha2⟩ := HAt.out
          obtain ⟨vp', hp1, hp2⟩ := HPt.out
          obtain ⟨pa, ca, rfl, -⟩ := id ha2
          obtain ⟨pp, cp, rfl, -⟩ := id hp2
          obtain ⟨z0, z1, zf⟩ := cell_of_two ha1
          obtain ⟨y0, y1, yf⟩ := cell_of_two hp1
          have b1 : (R1.2 == 0) = true := by simp [HRb.out]
          have b2 : (R1.1 == (valueOf (coefX pt) c1 t1)) = true := by simp [HRa.out]
          have b3 : (R2.2 == E2) = true := by simp [HR2b.out]
          have b4 : (R3.2 == 0) = true := by simp [HR3b.out]
          have HA2t := Lib.hid ha2
          have HP2t := Lib.hid hp2
          have HP1t := Lib.hid hp1
          have e1 : eqForm R2.1 ((0, []) : CondD) = true := by rw [HR2a.out]; simp [eqForm]
          have e2 : eqForm R3.1 G = true := by rw [HR3a.out]; simp [eqForm]
          have HE1 := Lib.hid e1
          have HE2 := Lib.hid e2
          clear ha1 ha2 hp1 hp2 e1 e2 HR2a HR2b HR3a HR3b HRa HRb
          go_wp2_with fail
          refine (sameForm_any R2.1 ((0, []) : CondD) _ _ _ HMt.out.ts HA2t.out).mono ?_
          rintro e wu ⟨rfl, hg⟩
          rw [HE1.out]
          clear s0 s1 sf p0 p1' pf z0 z1 zf y0 y1 yf
          have HMu := Lib.hid (HMt.out.kept hg)
          have HP2u := Lib.hid (HP2t.out.kept hg)
          obtain ⟨p0, p1', pf⟩ := cell_of_two HMu.out.p
          obtain ⟨y0, y1, yf⟩ := cell_of_two (heap_keep HP1t.out hg (by simp))
          clear hg
          go_wp2_with fail
          refine (sameForm_any R3.1 G _ _ _ HMu.out.tq HP2u.out).mono ?_
          rintro e wv ⟨rfl, hg⟩
          rw [HE2.out]
          clear p0 p1' pf y0 y1 yf
          have HGv := Lib.hid (grownBy_trans HMu.out.g hg)
          clear hg
          go_wp2_with fail
          refine (nested_any _).mono ?_
          rintro e wx ⟨rfl, hg⟩
          have HGx := Lib.hid (grownBy_trans HGv.out hg)
          clear hg
          go_wp2
          go_ret
          exact ⟨rfl, HGx.out⟩
        case neg =>
          have HR3a : Hid (R3.1 = (0, [])) := by show _ = _; rw [HSu3.out]; unfold okForm; rw [if_pos h6]
          have HR3b : Hid (R3.2 = formErr G.1 G.2) := by show _ = _; rw [HSu3.out]; unfold okForm; rw [if_pos h6]
          have h6b : (formErr G.1 G.2 != 0) = true := by simpa using h6
          clear h6
          generalize formErr G.1 G.2 = E8 at *
          obtain ⟨z0, z1, zf⟩ := cell_of_two HA2r.out
          go_upto_region 25 with fail
          obtain ⟨f1, f2⟩ := two_set HA2r.out (.int .i64 0) (.slice none 0 0)
          have HMt := Lib.hid (HMr.out.set HA2r.out (grownBy_refl _ _) f2 (by have := HLt.out; omega) (by have := HLt.out; omega) (by have := HLt.out; omega) (by have := HLt.out; omega) (by have := HLt.out; omega))
          have HAf := Lib.hid f1
          have HA' : Hid (∃ v, ((wr.setCell ⟨Z + 1, 0, none⟩ (.int .i64 0)).setCell ⟨Z + 1, 1, none⟩ (.slice none 0 0)).heap[Z]? = some (.cells #[.int .i64 (((0, []) : CondD)).1, v] 28 (0, 0)) ∧ TermsAt ((wr.setCell ⟨Z + 1, 0, none⟩ (.int .i64 0)).setCell ⟨Z + 1, 1, none⟩ (.slice none 0 0)) v (((0, []) : CondD)).2) := by
            obtain ⟨u, u1, u2⟩ := HAr.out
            exact ⟨u, heap_keep u1 f2 (by simp), u2.later_set HA2r.out (grownBy_refl _ _) f2⟩
          clear z0 z1 zf f1 f2 HMr HAr HA2r HVr
          generalize (wr.setCell ⟨Z + 1, 0, none⟩ (.int .i64 0)).setCell ⟨Z + 1, 1, none⟩ (.slice none 0 0) = wt at *
          have HAt := Lib.hid HA'.out
          have HPt : Hid (∃ v, wt.heap[Z + 1]? = some (.cells #[.int .i64 ((0, []) : CondD).1, v] 28 (0, 0)) ∧ TermsAt wt v ((0, []) : CondD).2) := ⟨_, HAf.out, terms_nil _ _ _⟩
          clear HAf HA'
          obtain ⟨s0, s1, sf⟩ := cell_of_two HMt.out.s
          obtain ⟨p0, p1', pf⟩ := cell_of_two HMt.out.p
          obtain ⟨va, ha1, ha2⟩ := HAt.out
          obtain ⟨vp', hp1, hp2⟩ := HPt.out
          obtain ⟨pa, ca, rfl, -⟩ := id ha2
          obtain ⟨pp, cp, rfl, -⟩ := id hp2
          obtain ⟨z0, z1, zf⟩ := cell_of_two ha1
          obtain ⟨y0, y1, yf⟩ := cell_of_two hp1
          have b1 : (R1.2 == 0) = true := by simp [HRb.out]
          have b2 : (R1.1 == (valueOf (coefX pt) c1 t1)) = true := by simp [HRa.out]
          have b3 : (R2.2 == E2) = true := by simp [HR2b.out]
          have b4 : (R3.2 == E8) = true := by simp [HR3b.out]
          have HA2t := Lib.hid ha2
          have HP2t := Lib.hid hp2
          have HP1t := Lib.hid hp1
          have e1 : eqForm R2.1 ((0, []) : CondD) = true := by rw [HR2a.out]; simp [eqForm]
          have e2 : eqForm R3.1 ((0, []) : CondD) = true := by rw [HR3a.out]; simp [eqForm]
          have HE1 := Lib.hid e1
          have HE2 := Lib.hid e2
          clear ha1 ha2 hp1 hp2 e1 e2 HR2a HR2b HR3a HR3b HRa HRb
          go_wp2_with fail
          refine (sameForm_any R2.1 ((0, []) : CondD) _ _ _ HMt.out.ts HA2t.out).mono ?_
          rintro e wu ⟨rfl, hg⟩
          rw [HE1.out]
          clear s0 s1 sf p0 p1' pf z0 z1 zf y0 y1 yf
          have HMu := Lib.hid (HMt.out.kept hg)
          have HP2u := Lib.hid (HP2t.out.kept hg)
          obtain ⟨p0, p1', pf⟩ := cell_of_two HMu.out.p
          obtain ⟨y0, y1, yf⟩ := cell_of_two (heap_keep HP1t.out hg (by simp))
          clear hg
          go_wp2_with fail
          refine (sameForm_any R3.1 ((0, []) : CondD) _ _ _ HMu.out.tq HP2u.out).mono ?_
          rintro e wv ⟨rfl, hg⟩
          rw [HE2.out]
          clear p0 p1' pf y0 y1 yf
          have HGv := Lib.hid (grownBy_trans HMu.out.g hg)
          clear hg
          go_wp2_with fail
          refine (nested_any _).mono ?_
          rintro e wx ⟨rfl, hg⟩
          have HGx := Lib.hid (grownBy_trans HGv.out hg)
          clear hg
          go_wp2
          go_ret
          exact ⟨rfl, HGx.out⟩
    case pos =>
      subst h2
      obtain ⟨q1, q2, q3, q4⟩ := HZ2.out rfl
      have HSu : Hid (R2 = okForm (formOfX (plusX (plusX (fun _ => 0) a t1) b t2) (0 + a * c1 + b * c2))) := by show _ = _; rw [HL2.out]; exact if_pos rfl
      have hra := in_range ((span_in a).1 q3)
      have hrb := in_range ((span_in b).1 q4)
      obtain ⟨x0, x1, xf⟩ := cell_of_two HMn.out.x
      obtain ⟨y0, y1, yf⟩ := cell_of_two HMn.out.y
      have H1 := Lib.hid q1
      have H2 := Lib.hid q2
      clear q1 q2 q3 q4
      go_upto_region 17 with fail
      have hq := sumOf_any c1 c2 t1 t2 a b _ _ wn HMn.out.tx HMn.out.ty H1.out H2.out hra hrb
      generalize hFF : formOfX (plusX (plusX (fun _ => 0) a t1) b t2) (0 + a * c1 + b * c2) = F at *
      refine hq.mono ?_
      rintro e wp ⟨v, rfl, hv, hg⟩
      clear hq hFF x0 x1 xf y0 y1 yf hra hrb H1 H2
      obtain ⟨pv, cv, rfl, -⟩ := id hv
      have HV := Lib.hid hv
      have HGp := Lib.hid hg
      have HMp := Lib.hid (HMn.out.kept hg)
      have HA1p := Lib.hid (heap_keep HA1n.out hg (by simp))
      have HA2p := Lib.hid (heap_keep HA2n.out hg (by simp))
      clear hg hv HMn HA2n
      obtain ⟨z0, z1, zf⟩ := cell_of_two HA1p.out
      go_upto_region 17 with fail
      obtain ⟨f1, f2⟩ := two_set HA1p.out (.int .i64 F.1) (.slice pv F.2.length cv)
      have HM' := Lib.hid (HMp.out.set HA1n.out HGp.out f2 (by have := HLt.out; omega) (by have := HLt.out; omega) (by have := HLt.out; omega) (by have := HLt.out; omega) (by have := HLt.out; omega))
      have HA1' := Lib.hid f1
      have HA2' := Lib.hid (heap_keep HA2p.out f2 (by simp))
      have HV' : Hid (TermsAt _ (.slice pv F.2.length cv) F.2) := HV.out.later_set HA1n.out HGp.out f2
      clear z0 z1 zf f1 f2 HMp HA1p HA2p HV HA1n HGp
      generalize (wp.setCell ⟨Z, 0, none⟩ (.int .i64 F.1)).setCell ⟨Z, 1, none⟩ (.slice pv F.2.length cv) = wq at *
      obtain ⟨z0, z1, zf⟩ := cell_of_two HA1'.out
      go_upto_region 18 with fail
      obtain ⟨_, _, e9, hl9, hc9⟩ := HV'.out
      cases e9
      refine (formFault_at F.1 F.2 pv cv wq hl9 hc9).mono ?_
      rintro e wr ⟨rfl, hg⟩
      clear z0 z1 zf hl9 hc9
      have HMr := Lib.hid (HM'.out.kept hg)
      have HA1r := Lib.hid (heap_keep HA1'.out hg (by simp))
      have HA2r := Lib.hid (heap_keep HA2'.out hg (by simp))
      have HVr := Lib.hid (HV'.out.kept hg)
      clear hg HM' HA1' HA2' HV'
      by_cases h3 : formErr F.1 F.2 = 0
      case pos =>
        have HR2a : Hid (R2.1 = F) := by show _ = _; rw [HSu.out]; unfold okForm; rw [if_neg (by simp [h3])]
        have HR2b : Hid (R2.2 = 0) := by show _ = _; rw [HSu.out]; unfold okForm; rw [if_neg (by simp [h3])]
        have h3b : (formErr F.1 F.2 != 0) = false := by simp [h3]
        rw [h3]
        clear h3 h3b
        go_upto_region 20 with fail
        generalize hwo : wr = wo at *
        have HMo := Lib.hid HMr.out
        have HAo : Hid (∃ v, wo.heap[Z]? = some (.cells #[.int .i64 F.1, v] 28 (0, 0)) ∧ TermsAt wo v F.2) := ⟨_, HA1r.out, HVr.out⟩
        have HA2o := Lib.hid HA2r.out
        clear HMr HA1r HA2r HVr hwo
        by_cases h5 : E3 = 0
        case neg =>
          have h5b : (E3 == 0) = false := by simpa using h5
          have HR3a : Hid (R3.1 = (0, [])) := by show _ = _; rw [HL3.out, if_neg h5]
          have HR3b : Hid (R3.2 = E3) := by show _ = _; rw [HL3.out, if_neg h5]
          clear h5
          go_upto_region 25 with fail
          generalize hwt : wo = wt at *
          have HMt := Lib.hid HMo.out
          have HAt := Lib.hid HAo.out
          have HPt : Hid (∃ v, wt.heap[Z + 1]? = some (.cells #[.int .i64 ((0, []) : CondD).1, v] 28 (0, 0)) ∧ TermsAt wt v ((0, []) : CondD).2) := ⟨_, HA2o.out, terms_nil _ _ _⟩
          clear HMo HAo HA2o hwt
          obtain ⟨s0, s1, sf⟩ := cell_of_two HMt.out.s
          obtain ⟨p0, p1', pf⟩ := cell_of_two HMt.out.p
          obtain ⟨va, ha1, ha2⟩ := HAt.out
          obtain ⟨vp', hp1, hp2⟩ := HPt.out
          obtain ⟨pa, ca, rfl, -⟩ := id ha2
          obtain ⟨pp, cp, rfl, -⟩ := id hp2
          obtain ⟨z0, z1, zf⟩ := cell_of_two ha1
          obtain ⟨y0, y1, yf⟩ := cell_of_two hp1
          have b1 : (R1.2 == 0) = true := by simp [HRb.out]
          have b2 : (R1.1 == (valueOf (coefX pt) c1 t1)) = true := by simp [HRa.out]
          have b3 : (R2.2 == 0) = true := by simp [HR2b.out]
          have b4 : (R3.2 == E3) = true := by simp [HR3b.out]
          have HA2t := Lib.hid ha2
          have HP2t := Lib.hid hp2
          have HP1t := Lib.hid hp1
          have e1 : eqForm R2.1 F = true := by rw [HR2a.out]; simp [eqForm]
          have e2 : eqForm R3.1 ((0, []) : CondD) = true := by rw [HR3a.out]; simp [eqForm]
          have HE1 := Lib.hid e1
          have HE2 := Lib.hid e2
          clear ha1 ha2 hp1 hp2 e1 e2 HR2a HR2b HR3a HR3b HRa HRb
          go_wp2_with fail
          refine (sameForm_any R2.1 F _ _ _ HMt.out.ts HA2t.out).mono ?_
          rintro e wu ⟨rfl, hg⟩
          rw [HE1.out]
          clear s0 s1 sf p0 p1' pf z0 z1 zf y0 y1 yf
          have HMu := Lib.hid (HMt.out.kept hg)
          have HP2u := Lib.hid (HP2t.out.kept hg)
          obtain ⟨p0, p1', pf⟩ := cell_of_two HMu.out.p
          obtain ⟨y0, y1, yf⟩ := cell_of_two (heap_keep HP1t.out hg (by simp))
          clear hg
          go_wp2_with fail
          refine (sameForm_any R3.1 ((0, []) : CondD) _ _ _ HMu.out.tq HP2u.out).mono ?_
          rintro e wv ⟨rfl, hg⟩
          rw [HE2.out]
          clear p0 p1' pf y0 y1 yf
          have HGv := Lib.hid (grownBy_trans HMu.out.g hg)
          clear hg
          go_wp2_with fail
          refine (nested_any _).mono ?_
          rintro e wx ⟨rfl, hg⟩
          have HGx := Lib.hid (grownBy_trans HGv.out hg)
          clear hg
          go_wp2
          go_ret
          exact ⟨rfl, HGx.out⟩
        case pos =>
          subst h5
          obtain ⟨q1, q2, q3⟩ := HZ3.out rfl
          have hnx : nameB x = true := by
            cases e : nameB x with
            | true => rfl
            | false =>
              have h9 := HN.out
              rw [e, q2] at h9
              simp at h9
          have HSu3 : Hid (R3 = okForm (formOfX (plusX (delX (oneF t1) x) (coefX t1 x) t2) (0 + 1 * c1 + coefX t1 x * c2))) := by show _ = _; rw [HL3.out]; exact if_pos rfl
          obtain ⟨x0, x1, xf⟩ := cell_of_two HMo.out.x
          obtain ⟨y0, y1, yf⟩ := cell_of_two HMo.out.y
          have H1 := Lib.hid q1
          have H2 := Lib.hid q3
          have HNx := Lib.hid hnx
          clear q1 q2 q3 hnx
          go_upto_region 22 with fail
          have hq := putOf_any c1 c2 t1 t2 x _ _ wo HMo.out.tx HMo.out.ty H1.out H2.out HNx.out
          generalize hGG : formOfX (plusX (delX (oneF t1) x) (coefX t1 x) t2) (0 + 1 * c1 + coefX t1 x * c2) = G at *
          refine hq.mono ?_
          rintro e wp ⟨v, rfl, hv, hg⟩
          clear hq hGG x0 x1 xf y0 y1 yf H1 H2 HNx
          obtain ⟨pv, cv, rfl, -⟩ := id hv
          have HV := Lib.hid hv
          have HGp := Lib.hid hg
          have HMp := Lib.hid (HMo.out.kept hg)
          have HAp : Hid (∃ v, wp.heap[Z]? = some (.cells #[.int .i64 (F).1, v] 28 (0, 0)) ∧ TermsAt wp v (F).2) := by
            obtain ⟨u, u1, u2⟩ := HAo.out
            exact ⟨u, heap_keep u1 hg (by simp), u2.kept hg⟩
          have HA2p := Lib.hid (heap_keep HA2o.out hg (by simp))
          clear hg hv HMo HAo
          obtain ⟨z0, z1, zf⟩ := cell_of_two HA2p.out
          go_upto_region 22 with fail
          obtain ⟨f1, f2⟩ := two_set HA2p.out (.int .i64 G.1) (.slice pv G.2.length cv)
          have HM' := Lib.hid (HMp.out.set HA2o.out HGp.out f2 (by have := HLt.out; omega) (by have := HLt.out; omega) (by have := HLt.out; omega) (by have := HLt.out; omega) (by have := HLt.out; omega))
          have HA2' := Lib.hid f1
          have HA' : Hid (∃ v, ((wp.setCell ⟨Z + 1, 0, none⟩ (.int .i64 G.1)).setCell ⟨Z + 1, 1, none⟩ (.slice pv G.2.length cv)).heap[Z]? = some (.cells #[.int .i64 (F).1, v] 28 (0, 0)) ∧ TermsAt ((wp.setCell ⟨Z + 1, 0, none⟩ (.int .i64 G.1)).setCell ⟨Z + 1, 1, none⟩ (.slice pv G.2.length cv)) v (F).2) := by
            obtain ⟨u, u1, u2⟩ := HAp.out
            exact ⟨u, heap_keep u1 f2 (by simp), u2.later_set HA2o.out HGp.out f2⟩
          have HV' : Hid (TermsAt _ (.slice pv G.2.length cv) G.2) := HV.out.later_set HA2o.out HGp.out f2
          clear z0 z1 zf f1 f2 HMp HAp HA2p HV HA2o HGp
          generalize (wp.setCell ⟨Z + 1, 0, none⟩ (.int .i64 G.1)).setCell ⟨Z + 1, 1, none⟩ (.slice pv G.2.length cv) = wq at *
          obtain ⟨z0, z1, zf⟩ := cell_of_two HA2'.out
          go_upto_region 23 with fail
          obtain ⟨_, _, e9, hl9, hc9⟩ := HV'.out
          cases e9
          refine (formFault_at G.1 G.2 pv cv wq hl9 hc9).mono ?_
          rintro e wr ⟨rfl, hg⟩
          clear z0 z1 zf hl9 hc9
          have HMr := Lib.hid (HM'.out.kept hg)
          have HA2r := Lib.hid (heap_keep HA2'.out hg (by simp))
          have HVr := Lib.hid (HV'.out.kept hg)
          have HAr : Hid (∃ v, wr.heap[Z]? = some (.cells #[.int .i64 (F).1, v] 28 (0, 0)) ∧ TermsAt wr v (F).2) := by
            obtain ⟨u, u1, u2⟩ := HA'.out
            exact ⟨u, heap_keep u1 hg (by simp), u2.kept hg⟩
          clear hg HM' HA' HA2' HV'
          by_cases h6 : formErr G.1 G.2 = 0
          case pos =>
            have HR3a : Hid (R3.1 = G) := by show _ = _; rw [HSu3.out]; unfold okForm; rw [if_neg (by simp [h6])]
            have HR3b : Hid (R3.2 = 0) := by show _ = _; rw [HSu3.out]; unfold okForm; rw [if_neg (by simp [h6])]
            rw [h6]
            clear h6
            go_upto_region 25 with fail
            generalize hwt : wr = wt at *
            have HMt := Lib.hid HMr.out
            have HAt := Lib.hid HAr.out
            have HPt : Hid (∃ v, wt.heap[Z + 1]? = some (.cells #[.int .i64 G.1, v] 28 (0, 0)) ∧ TermsAt wt v G.2) := ⟨_, HA2r.out, HVr.out⟩
            clear HMr HAr HA2r HVr hwt
            obtain ⟨s0, s1, sf⟩ := cell_of_two HMt.out.s
            obtain ⟨p0, p1', pf⟩ := cell_of_two HMt.out.p
            obtain ⟨va, ha1, ha2⟩ := HAt.out
            obtain ⟨vp', hp1, hp2⟩ := HPt.out
            obtain ⟨pa, ca, rfl, -⟩ := id ha2
            obtain ⟨pp, cp, rfl, -⟩ := id hp2
            obtain ⟨z0, z1, zf⟩ := cell_of_two ha1
            obtain ⟨y0, y1, yf⟩ := cell_of_two hp1
            have b1 : (R1.2 == 0) = true := by simp [HRb.out]
            have b2 : (R1.1 == (valueOf (coefX pt) c1 t1)) = true := by simp [HRa.out]
            have b3 : (R2.2 == 0) = true := by simp [HR2b.out]
            have b4 : (R3.2 == 0) = true := by simp [HR3b.out]
            have HA2t := Lib.hid ha2
            have HP2t := Lib.hid hp2
            have HP1t := Lib.hid hp1
            have e1 : eqForm R2.1 F = true := by rw [HR2a.out]; simp [eqForm]
            have e2 : eqForm R3.1 G = true := by rw [HR3a.out]; simp [eqForm]
            have HE1 := Lib.hid e1
            have HE2 := Lib.hid e2
            clear ha1 ha2 hp1 hp2 e1 e2 HR2a HR2b HR3a HR3b HRa HRb
            go_wp2_with fail
            refine (sameForm_any R2.1 F _ _ _ HMt.out.ts HA2t.out).mono ?_
            rintro e wu ⟨rfl, hg⟩
            rw [HE1.out]
            clear s0 s1 sf p0 p1' pf z0 z1 zf y0 y1 yf
            have HMu := Lib.hid (HMt.out.kept hg)
            have HP2u := Lib.hid (HP2t.out.kept hg)
            obtain ⟨p0, p1', pf⟩ := cell_of_two HMu.out.p
            obtain ⟨y0, y1, yf⟩ := cell_of_two (heap_keep HP1t.out hg (by simp))
            clear hg
            go_wp2_with fail
            refine (sameForm_any R3.1 G _ _ _ HMu.out.tq HP2u.out).mono ?_
            rintro e wv ⟨rfl, hg⟩
            rw [HE2.out]
            clear p0 p1' pf y0 y1 yf
            have HGv := Lib.hid (grownBy_trans HMu.out.g hg)
            clear hg
            go_wp2_with fail
            refine (nested_any _).mono ?_
            rintro e wx ⟨rfl, hg⟩
            have HGx := Lib.hid (grownBy_trans HGv.out hg)
            clear hg
            go_wp2
            go_ret
            exact ⟨rfl, HGx.out⟩
          case neg =>
            have HR3a : Hid (R3.1 = (0, [])) := by show _ = _; rw [HSu3.out]; unfold okForm; rw [if_pos h6]
            have HR3b : Hid (R3.2 = formErr G.1 G.2) := by show _ = _; rw [HSu3.out]; unfold okForm; rw [if_pos h6]
            have h6b : (formErr G.1 G.2 != 0) = true := by simpa using h6
            clear h6
            generalize formErr G.1 G.2 = E8 at *
            obtain ⟨z0, z1, zf⟩ := cell_of_two HA2r.out
            go_upto_region 25 with fail
            obtain ⟨f1, f2⟩ := two_set HA2r.out (.int .i64 0) (.slice none 0 0)
            have HMt := Lib.hid (HMr.out.set HA2r.out (grownBy_refl _ _) f2 (by have := HLt.out; omega) (by have := HLt.out; omega) (by have := HLt.out; omega) (by have := HLt.out; omega) (by have := HLt.out; omega))
            have HAf := Lib.hid f1
            have HA' : Hid (∃ v, ((wr.setCell ⟨Z + 1, 0, none⟩ (.int .i64 0)).setCell ⟨Z + 1, 1, none⟩ (.slice none 0 0)).heap[Z]? = some (.cells #[.int .i64 (F).1, v] 28 (0, 0)) ∧ TermsAt ((wr.setCell ⟨Z + 1, 0, none⟩ (.int .i64 0)).setCell ⟨Z + 1, 1, none⟩ (.slice none 0 0)) v (F).2) := by
              obtain ⟨u, u1, u2⟩ := HAr.out
              exact ⟨u, heap_keep u1 f2 (by simp), u2.later_set HA2r.out (grownBy_refl _ _) f2⟩
            clear z0 z1 zf f1 f2 HMr HAr HA2r HVr
            generalize (wr.setCell ⟨Z + 1, 0, none⟩ (.int .i64 0)).setCell ⟨Z + 1, 1, none⟩ (.slice none 0 0) = wt at *
            have HAt := Lib.hid HA'.out
            have HPt : Hid (∃ v, wt.heap[Z + 1]? = some (.cells #[.int .i64 ((0, []) : CondD).1, v] 28 (0, 0)) ∧ TermsAt wt v ((0, []) : CondD).2) := ⟨_, HAf.out, terms_nil _ _ _⟩
            clear HAf HA'
            obtain ⟨s0, s1, sf⟩ := cell_of_two HMt.out.s
            obtain ⟨p0, p1', pf⟩ := cell_of_two HMt.out.p
            obtain ⟨va, ha1, ha2⟩ := HAt.out
            obtain ⟨vp', hp1, hp2⟩ := HPt.out
            obtain ⟨pa, ca, rfl, -⟩ := id ha2
            obtain ⟨pp, cp, rfl, -⟩ := id hp2
            obtain ⟨z0, z1, zf⟩ := cell_of_two ha1
            obtain ⟨y0, y1, yf⟩ := cell_of_two hp1
            have b1 : (R1.2 == 0) = true := by simp [HRb.out]
            have b2 : (R1.1 == (valueOf (coefX pt) c1 t1)) = true := by simp [HRa.out]
            have b3 : (R2.2 == 0) = true := by simp [HR2b.out]
            have b4 : (R3.2 == E8) = true := by simp [HR3b.out]
            have HA2t := Lib.hid ha2
            have HP2t := Lib.hid hp2
            have HP1t := Lib.hid hp1
            have e1 : eqForm R2.1 F = true := by rw [HR2a.out]; simp [eqForm]
            have e2 : eqForm R3.1 ((0, []) : CondD) = true := by rw [HR3a.out]; simp [eqForm]
            have HE1 := Lib.hid e1
            have HE2 := Lib.hid e2
            clear ha1 ha2 hp1 hp2 e1 e2 HR2a HR2b HR3a HR3b HRa HRb
            go_wp2_with fail
            refine (sameForm_any R2.1 F _ _ _ HMt.out.ts HA2t.out).mono ?_
            rintro e wu ⟨rfl, hg⟩
            rw [HE1.out]
            clear s0 s1 sf p0 p1' pf z0 z1 zf y0 y1 yf
            have HMu := Lib.hid (HMt.out.kept hg)
            have HP2u := Lib.hid (HP2t.out.kept hg)
            obtain ⟨p0, p1', pf⟩ := cell_of_two HMu.out.p
            obtain ⟨y0, y1, yf⟩ := cell_of_two (heap_keep HP1t.out hg (by simp))
            clear hg
            go_wp2_with fail
            refine (sameForm_any R3.1 ((0, []) : CondD) _ _ _ HMu.out.tq HP2u.out).mono ?_
            rintro e wv ⟨rfl, hg⟩
            rw [HE2.out]
            clear p0 p1' pf y0 y1 yf
            have HGv := Lib.hid (grownBy_trans HMu.out.g hg)
            clear hg
            go_wp2_with fail
            refine (nested_any _).mono ?_
            rintro e wx ⟨rfl, hg⟩
            have HGx := Lib.hid (grownBy_trans HGv.out hg)
            clear hg
            go_wp2
            go_ret
            exact ⟨rfl, HGx.out⟩
      case neg =>
        have HR2a : Hid (R2.1 = (0, [])) := by show _ = _; rw [HSu.out]; unfold okForm; rw [if_pos h3]
        have HR2b : Hid (R2.2 = formErr F.1 F.2) := by show _ = _; rw [HSu.out]; unfold okForm; rw [if_pos h3]
        have h3b : (formErr F.1 F.2 != 0) = true := by simpa using h3
        clear h3
        generalize formErr F.1 F.2 = E9 at *
        obtain ⟨z0, z1, zf⟩ := cell_of_two HA1r.out
        go_upto_region 20 with fail
        obtain ⟨f1, f2⟩ := two_set HA1r.out (.int .i64 0) (.slice none 0 0)
        have HMo := Lib.hid (HMr.out.set HA1r.out (grownBy_refl _ _) f2 (by have := HLt.out; omega) (by have := HLt.out; omega) (by have := HLt.out; omega) (by have := HLt.out; omega) (by have := HLt.out; omega))
        have HA2o := Lib.hid (heap_keep HA2r.out f2 (by simp))
        have HAf := Lib.hid f1
        clear z0 z1 zf f1 f2 HMr HA1r HA2r HVr
        generalize (wr.setCell ⟨Z, 0, none⟩ (.int .i64 0)).setCell ⟨Z, 1, none⟩ (.slice none 0 0) = wo at *
        have HAo : Hid (∃ v, wo.heap[Z]? = some (.cells #[.int .i64 ((0, []) : CondD).1, v] 28 (0, 0)) ∧ TermsAt wo v ((0, []) : CondD).2) := ⟨_, HAf.out, terms_nil _ _ _⟩
        clear HAf
        by_cases h5 : E3 = 0
        case neg =>
          have h5b : (E3 == 0) = false := by simpa using h5
          have HR3a : Hid (R3.1 = (0, [])) := by show _ = _; rw [HL3.out, if_neg h5]
          have HR3b : Hid (R3.2 = E3) := by show _ = _; rw [HL3.out, if_neg h5]
          clear h5
          go_upto_region 25 with fail
          generalize hwt : wo = wt at *
          have HMt := Lib.hid HMo.out
          have HAt := Lib.hid HAo.out
          have HPt : Hid (∃ v, wt.heap[Z + 1]? = some (.cells #[.int .i64 ((0, []) : CondD).1, v] 28 (0, 0)) ∧ TermsAt wt v ((0, []) : CondD).2) := ⟨_, HA2o.out, terms_nil _ _ _⟩
          clear HMo HAo HA2o hwt
          obtain ⟨s0, s1, sf⟩ := cell_of_two HMt.out.s
          obtain ⟨p0, p1', pf⟩ := cell_of_two HMt.out.p
          obtain ⟨va, ha1, ha2⟩ := HAt.out
          obtain ⟨vp', hp1, hp2⟩ := HPt.out
          obtain ⟨pa, ca, rfl, -⟩ := id ha2
          obtain ⟨pp, cp, rfl, -⟩ := id hp2
          obtain ⟨z0, z1, zf⟩ := cell_of_two ha1
          obtain ⟨y0, y1, yf⟩ := cell_of_two hp1
          have b1 : (R1.2 == 0) = true := by simp [HRb.out]
          have b2 : (R1.1 == (valueOf (coefX pt) c1 t1)) = true := by simp [HRa.out]
          have b3 : (R2.2 == E9) = true := by simp [HR2b.out]
          have b4 : (R3.2 == E3) = true := by simp [HR3b.out]
          have HA2t := Lib.hid ha2
          have HP2t := Lib.hid hp2
          have HP1t := Lib.hid hp1
          have e1 : eqForm R2.1 ((0, []) : CondD) = true := by rw [HR2a.out]; simp [eqForm]
          have e2 : eqForm R3.1 ((0, []) : CondD) = true := by rw [HR3a.out]; simp [eqForm]
          have HE1 := Lib.hid e1
          have HE2 := Lib.hid e2
          clear ha1 ha2 hp1 hp2 e1 e2 HR2a HR2b HR3a HR3b HRa HRb
          go_wp2_with fail
          refine (sameForm_any R2.1 ((0, []) : CondD) _ _ _ HMt.out.ts HA2t.out).mono ?_
          rintro e wu ⟨rfl, hg⟩
          rw [HE1.out]
          clear s0 s1 sf p0 p1' pf z0 z1 zf y0 y1 yf
          have HMu := Lib.hid (HMt.out.kept hg)
          have HP2u := Lib.hid (HP2t.out.kept hg)
          obtain ⟨p0, p1', pf⟩ := cell_of_two HMu.out.p
          obtain ⟨y0, y1, yf⟩ := cell_of_two (heap_keep HP1t.out hg (by simp))
          clear hg
          go_wp2_with fail
          refine (sameForm_any R3.1 ((0, []) : CondD) _ _ _ HMu.out.tq HP2u.out).mono ?_
          rintro e wv ⟨rfl, hg⟩
          rw [HE2.out]
          clear p0 p1' pf y0 y1 yf
          have HGv := Lib.hid (grownBy_trans HMu.out.g hg)
          clear hg
          go_wp2_with fail
          refine (nested_any _).mono ?_
          rintro e wx ⟨rfl, hg⟩
          have HGx := Lib.hid (grownBy_trans HGv.out hg)
          clear hg
          go_wp2
          go_ret
          exact ⟨rfl, HGx.out⟩
        case pos =>
          subst h5
          obtain ⟨q1, q2, q3⟩ := HZ3.out rfl
          have hnx : nameB x = true := by
            cases e : nameB x with
            | true => rfl
            | false =>
              have h9 := HN.out
              rw [e, q2] at h9
              simp at h9
          have HSu3 : Hid (R3 = okForm (formOfX (plusX (delX (oneF t1) x) (coefX t1 x) t2) (0 + 1 * c1 + coefX t1 x * c2))) := by show _ = _; rw [HL3.out]; exact if_pos rfl
          obtain ⟨x0, x1, xf⟩ := cell_of_two HMo.out.x
          obtain ⟨y0, y1, yf⟩ := cell_of_two HMo.out.y
          have H1 := Lib.hid q1
          have H2 := Lib.hid q3
          have HNx := Lib.hid hnx
          clear q1 q2 q3 hnx
          go_upto_region 22 with fail
          have hq := putOf_any c1 c2 t1 t2 x _ _ wo HMo.out.tx HMo.out.ty H1.out H2.out HNx.out
          generalize hGG : formOfX (plusX (delX (oneF t1) x) (coefX t1 x) t2) (0 + 1 * c1 + coefX t1 x * c2) = G at *
          refine hq.mono ?_
          rintro e wp ⟨v, rfl, hv, hg⟩
          clear hq hGG x0 x1 xf y0 y1 yf H1 H2 HNx
          obtain ⟨pv, cv, rfl, -⟩ := id hv
          have HV := Lib.hid hv
          have HGp := Lib.hid hg
          have HMp := Lib.hid (HMo.out.kept hg)
          have HAp : Hid (∃ v, wp.heap[Z]? = some (.cells #[.int .i64 (((0, []) : CondD)).1, v] 28 (0, 0)) ∧ TermsAt wp v (((0, []) : CondD)).2) := by
            obtain ⟨u, u1, u2⟩ := HAo.out
            exact ⟨u, heap_keep u1 hg (by simp), u2.kept hg⟩
          have HA2p := Lib.hid (heap_keep HA2o.out hg (by simp))
          clear hg hv HMo HAo
          obtain ⟨z0, z1, zf⟩ := cell_of_two HA2p.out
          go_upto_region 22 with fail
          obtain ⟨f1, f2⟩ := two_set HA2p.out (.int .i64 G.1) (.slice pv G.2.length cv)
          have HM' := Lib.hid (HMp.out.set HA2o.out HGp.out f2 (by have := HLt.out; omega) (by have := HLt.out; omega) (by have := HLt.out; omega) (by have := HLt.out; omega) (by have := HLt.out; omega))
          have HA2' := Lib.hid f1
          have HA' : Hid (∃ v, ((wp.setCell ⟨Z + 1, 0, none⟩ (.int .i64 G.1)).setCell ⟨Z + 1, 1, none⟩ (.slice pv G.2.length cv)).heap[Z]? = some (.cells #[.int .i64 (((0, []) : CondD)).1, v] 28 (0, 0)) ∧ TermsAt ((wp.setCell ⟨Z + 1, 0, none⟩ (.int .i64 G.1)).setCell ⟨Z + 1, 1, none⟩ (.slice pv G.2.length cv)) v (((0, []) : CondD)).2) := by
            obtain ⟨u, u1, u2⟩ := HAp.out
            exact ⟨u, heap_keep u1 f2 (by simp), u2.later_set HA2o.out HGp.out f2⟩
          have HV' : Hid (TermsAt _ (.slice pv G.2.length cv) G.2) := HV.out.later_set HA2o.out HGp.out f2
          clear z0 z1 zf f1 f2 HMp HAp HA2p HV HA2o HGp
          generalize (wp.setCell ⟨Z + 1, 0, none⟩ (.int .i64 G.1)).setCell ⟨Z + 1, 1, none⟩ (.slice pv G.2.length cv) = wq at *
          obtain ⟨z0, z1, zf⟩ := cell_of_two HA2'.out
          go_upto_region 23 with fail
          obtain ⟨_, _, e9, hl9, hc9⟩ := HV'.out
          cases e9
          refine (formFault_at G.1 G.2 pv cv wq hl9 hc9).mono ?_
          rintro e wr ⟨rfl, hg⟩
          clear z0 z1 zf hl9 hc9
          have HMr := Lib.hid (HM'.out.kept hg)
          have HA2r := Lib.hid (heap_keep HA2'.out hg (by simp))
          have HVr := Lib.hid (HV'.out.kept hg)
          have HAr : Hid (∃ v, wr.heap[Z]? = some (.cells #[.int .i64 (((0, []) : CondD)).1, v] 28 (0, 0)) ∧ TermsAt wr v (((0, []) : CondD)).2) := by
            obtain ⟨u, u1, u2⟩ := HA'.out
            exact ⟨u, heap_keep u1 hg (by simp), u2.kept hg⟩
          clear hg HM' HA' HA2' HV'
          by_cases h6 : formErr G.1 G.2 = 0
          case pos =>
            have HR3a : Hid (R3.1 = G) := by show _ = _; rw [HSu3.out]; unfold okForm; rw [if_neg (by simp [h6])]
            have HR3b : Hid (R3.2 = 0) := by show _ = _; rw [HSu3.out]; unfold okForm; rw [if_neg (by simp [h6])]
            rw [h6]
            clear h6
            go_upto_region 25 with fail
            generalize hwt : wr = wt at *
            have HMt := Lib.hid HMr.out
            have HAt := Lib.hid HAr.out
            have HPt : Hid (∃ v, wt.heap[Z + 1]? = some (.cells #[.int .i64 G.1, v] 28 (0, 0)) ∧ TermsAt wt v G.2) := ⟨_, HA2r.out, HVr.out⟩
            clear HMr HAr HA2r HVr hwt
            obtain ⟨s0, s1, sf⟩ := cell_of_two HMt.out.s
            obtain ⟨p0, p1', pf⟩ := cell_of_two HMt.out.p
            obtain ⟨va, ha1, ha2⟩ := HAt.out
            obtain ⟨vp', hp1, hp2⟩ := HPt.out
            obtain ⟨pa, ca, rfl, -⟩ := id ha2
            obtain ⟨pp, cp, rfl, -⟩ := id hp2
            obtain ⟨z0, z1, zf⟩ := cell_of_two ha1
            obtain ⟨y0, y1, yf⟩ := cell_of_two hp1
            have b1 : (R1.2 == 0) = true := by simp [HRb.out]
            have b2 : (R1.1 == (valueOf (coefX pt) c1 t1)) = true := by simp [HRa.out]
            have b3 : (R2.2 == E9) = true := by simp [HR2b.out]
            have b4 : (R3.2 == 0) = true := by simp [HR3b.out]
            have HA2t := Lib.hid ha2
            have HP2t := Lib.hid hp2
            have HP1t := Lib.hid hp1
            have e1 : eqForm R2.1 ((0, []) : CondD) = true := by rw [HR2a.out]; simp [eqForm]
            have e2 : eqForm R3.1 G = true := by rw [HR3a.out]; simp [eqForm]
            have HE1 := Lib.hid e1
            have HE2 := Lib.hid e2
            clear ha1 ha2 hp1 hp2 e1 e2 HR2a HR2b HR3a HR3b HRa HRb
            go_wp2_with fail
            refine (sameForm_any R2.1 ((0, []) : CondD) _ _ _ HMt.out.ts HA2t.out).mono ?_
            rintro e wu ⟨rfl, hg⟩
            rw [HE1.out]
            clear s0 s1 sf p0 p1' pf z0 z1 zf y0 y1 yf
            have HMu := Lib.hid (HMt.out.kept hg)
            have HP2u := Lib.hid (HP2t.out.kept hg)
            obtain ⟨p0, p1', pf⟩ := cell_of_two HMu.out.p
            obtain ⟨y0, y1, yf⟩ := cell_of_two (heap_keep HP1t.out hg (by simp))
            clear hg
            go_wp2_with fail
            refine (sameForm_any R3.1 G _ _ _ HMu.out.tq HP2u.out).mono ?_
            rintro e wv ⟨rfl, hg⟩
            rw [HE2.out]
            clear p0 p1' pf y0 y1 yf
            have HGv := Lib.hid (grownBy_trans HMu.out.g hg)
            clear hg
            go_wp2_with fail
            refine (nested_any _).mono ?_
            rintro e wx ⟨rfl, hg⟩
            have HGx := Lib.hid (grownBy_trans HGv.out hg)
            clear hg
            go_wp2
            go_ret
            exact ⟨rfl, HGx.out⟩
          case neg =>
            have HR3a : Hid (R3.1 = (0, [])) := by show _ = _; rw [HSu3.out]; unfold okForm; rw [if_pos h6]
            have HR3b : Hid (R3.2 = formErr G.1 G.2) := by show _ = _; rw [HSu3.out]; unfold okForm; rw [if_pos h6]
            have h6b : (formErr G.1 G.2 != 0) = true := by simpa using h6
            clear h6
            generalize formErr G.1 G.2 = E8 at *
            obtain ⟨z0, z1, zf⟩ := cell_of_two HA2r.out
            go_upto_region 25 with fail
            obtain ⟨f1, f2⟩ := two_set HA2r.out (.int .i64 0) (.slice none 0 0)
            have HMt := Lib.hid (HMr.out.set HA2r.out (grownBy_refl _ _) f2 (by have := HLt.out; omega) (by have := HLt.out; omega) (by have := HLt.out; omega) (by have := HLt.out; omega) (by have := HLt.out; omega))
            have HAf := Lib.hid f1
            have HA' : Hid (∃ v, ((wr.setCell ⟨Z + 1, 0, none⟩ (.int .i64 0)).setCell ⟨Z + 1, 1, none⟩ (.slice none 0 0)).heap[Z]? = some (.cells #[.int .i64 (((0, []) : CondD)).1, v] 28 (0, 0)) ∧ TermsAt ((wr.setCell ⟨Z + 1, 0, none⟩ (.int .i64 0)).setCell ⟨Z + 1, 1, none⟩ (.slice none 0 0)) v (((0, []) : CondD)).2) := by
              obtain ⟨u, u1, u2⟩ := HAr.out
              exact ⟨u, heap_keep u1 f2 (by simp), u2.later_set HA2r.out (grownBy_refl _ _) f2⟩
            clear z0 z1 zf f1 f2 HMr HAr HA2r HVr
            generalize (wr.setCell ⟨Z + 1, 0, none⟩ (.int .i64 0)).setCell ⟨Z + 1, 1, none⟩ (.slice none 0 0) = wt at *
            have HAt := Lib.hid HA'.out
            have HPt : Hid (∃ v, wt.heap[Z + 1]? = some (.cells #[.int .i64 ((0, []) : CondD).1, v] 28 (0, 0)) ∧ TermsAt wt v ((0, []) : CondD).2) := ⟨_, HAf.out, terms_nil _ _ _⟩
            clear HAf HA'
            obtain ⟨s0, s1, sf⟩ := cell_of_two HMt.out.s
            obtain ⟨p0, p1', pf⟩ := cell_of_two HMt.out.p
            obtain ⟨va, ha1, ha2⟩ := HAt.out
            obtain ⟨vp', hp1, hp2⟩ := HPt.out
            obtain ⟨pa, ca, rfl, -⟩ := id ha2
            obtain ⟨pp, cp, rfl, -⟩ := id hp2
            obtain ⟨z0, z1, zf⟩ := cell_of_two ha1
            obtain ⟨y0, y1, yf⟩ := cell_of_two hp1
            have b1 : (R1.2 == 0) = true := by simp [HRb.out]
            have b2 : (R1.1 == (valueOf (coefX pt) c1 t1)) = true := by simp [HRa.out]
            have b3 : (R2.2 == E9) = true := by simp [HR2b.out]
            have b4 : (R3.2 == E8) = true := by simp [HR3b.out]
            have HA2t := Lib.hid ha2
            have HP2t := Lib.hid hp2
            have HP1t := Lib.hid hp1
            have e1 : eqForm R2.1 ((0, []) : CondD) = true := by rw [HR2a.out]; simp [eqForm]
            have e2 : eqForm R3.1 ((0, []) : CondD) = true := by rw [HR3a.out]; simp [eqForm]
            have HE1 := Lib.hid e1
            have HE2 := Lib.hid e2
            clear ha1 ha2 hp1 hp2 e1 e2 HR2a HR2b HR3a HR3b HRa HRb
            go_wp2_with fail
            refine (sameForm_any R2.1 ((0, []) : CondD) _ _ _ HMt.out.ts HA2t.out).mono ?_
            rintro e wu ⟨rfl, hg⟩
            rw [HE1.out]
            clear s0 s1 sf p0 p1' pf z0 z1 zf y0 y1 yf
            have HMu := Lib.hid (HMt.out.kept hg)
            have HP2u := Lib.hid (HP2t.out.kept hg)
            obtain ⟨p0, p1', pf⟩ := cell_of_two HMu.out.p
            obtain ⟨y0, y1, yf⟩ := cell_of_two (heap_keep HP1t.out hg (by simp))
            clear hg
            go_wp2_with fail
            refine (sameForm_any R3.1 ((0, []) : CondD) _ _ _ HMu.out.tq HP2u.out).mono ?_
            rintro e wv ⟨rfl, hg⟩
            rw [HE2.out]
            clear p0 p1' pf y0 y1 yf
            have HGv := Lib.hid (grownBy_trans HMu.out.g hg)
            clear hg
            go_wp2_with fail
            refine (nested_any _).mono ?_
            rintro e wx ⟨rfl, hg⟩
            have HGx := Lib.hid (grownBy_trans HGv.out hg)
            clear hg
            go_wp2
            go_ret
            exact ⟨rfl, HGx.out⟩
  · have h1b : (E1 == 0) = false := by simpa using h1
    have HRa : Hid (R1.1 = 0) := by show _ = _; rw [HL1.out]; simp [h1]
    have HRb : Hid (R1.2 = E1) := by show _ = _; rw [HL1.out]
    clear h1
    go_upto_region 15 with fail
    generalize hwn : wm = wn at *
    have HMn := Lib.hid HM.out
    have HA1n := Lib.hid HA1.out
    have HA2n := Lib.hid HA2.out
    clear HM HA1 HA2 hwn
    by_cases h2 : E2 = 0
    case neg =>
      have h2b : (E2 == 0) = false := by simpa using h2
      have HR2a : Hid (R2.1 = (0, [])) := by show _ = _; rw [HL2.out, if_neg h2]
      have HR2b : Hid (R2.2 = E2) := by show _ = _; rw [HL2.out, if_neg h2]
      clear h2
      go_upto_region 20 with fail
      generalize hwo : wn = wo at *
      have HMo := Lib.hid HMn.out
      have HAo : Hid (∃ v, wo.heap[Z]? = some (.cells #[.int .i64 ((0, []) : CondD).1, v] 28 (0, 0)) ∧ TermsAt wo v ((0, []) : CondD).2) := ⟨_, HA1n.out, terms_nil _ _ _⟩
      have HA2o := Lib.hid HA2n.out
      clear HMn HA1n HA2n hwo
      by_cases h5 : E3 = 0
      case neg =>
        have h5b : (E3 == 0) = false := by simpa using h5
        have HR3a : Hid (R3.1 = (0, [])) := by show _ = _; rw [HL3.out, if_neg h5]
        have HR3b : Hid (R3.2 = E3) := by show _ = _; rw [HL3.out, if_neg h5]
        clear h5
        go_upto_region 25 with fail
        generalize hwt : wo = wt at *
        have HMt := Lib.hid HMo.out
        have HAt := Lib.hid HAo.out
        have HPt : Hid (∃ v, wt.heap[Z + 1]? = some (.cells #[.int .i64 ((0, []) : CondD).1, v] 28 (0, 0)) ∧ TermsAt wt v ((0, []) : CondD).2) := ⟨_, HA2o.out, terms_nil _ _ _⟩
        clear HMo HAo HA2o hwt
        obtain ⟨s0, s1, sf⟩ := cell_of_two HMt.out.s
        obtain ⟨p0, p1', pf⟩ := cell_of_two HMt.out.p
        obtain ⟨va, ha1, ha2⟩ := HAt.out
        obtain ⟨vp', hp1, hp2⟩ := HPt.out
        obtain ⟨pa, ca, rfl, -⟩ := id ha2
        obtain ⟨pp, cp, rfl, -⟩ := id hp2
        obtain ⟨z0, z1, zf⟩ := cell_of_two ha1
        obtain ⟨y0, y1, yf⟩ := cell_of_two hp1
        have b1 : (R1.2 == E1) = true := by simp [HRb.out]
        have b2 : (R1.1 == 0) = true := by simp [HRa.out]
        have b3 : (R2.2 == E2) = true := by simp [HR2b.out]
        have b4 : (R3.2 == E3) = true := by simp [HR3b.out]
        have HA2t := Lib.hid ha2
        have HP2t := Lib.hid hp2
        have HP1t := Lib.hid hp1
        have e1 : eqForm R2.1 ((0, []) : CondD) = true := by rw [HR2a.out]; simp [eqForm]
        have e2 : eqForm R3.1 ((0, []) : CondD) = true := by rw [HR3a.out]; simp [eqForm]
        have HE1 := Lib.hid e1
        have HE2 := Lib.hid e2
        clear ha1 ha2 hp1 hp2 e1 e2 HR2a HR2b HR3a HR3b HRa HRb
        go_wp2_with fail
        refine (sameForm_any R2.1 ((0, []) : CondD) _ _ _ HMt.out.ts HA2t.out).mono ?_
        rintro e wu ⟨rfl, hg⟩
        rw [HE1.out]
        clear s0 s1 sf p0 p1' pf z0 z1 zf y0 y1 yf
        have HMu := Lib.hid (HMt.out.kept hg)
        have HP2u := Lib.hid (HP2t.out.kept hg)
        obtain ⟨p0, p1', pf⟩ := cell_of_two HMu.out.p
        obtain ⟨y0, y1, yf⟩ := cell_of_two (heap_keep HP1t.out hg (by simp))
        clear hg
        go_wp2_with fail
        refine (sameForm_any R3.1 ((0, []) : CondD) _ _ _ HMu.out.tq HP2u.out).mono ?_
        rintro e wv ⟨rfl, hg⟩
        rw [HE2.out]
        clear p0 p1' pf y0 y1 yf
        have HGv := Lib.hid (grownBy_trans HMu.out.g hg)
        clear hg
        go_wp2_with fail
        refine (nested_any _).mono ?_
        rintro e wx ⟨rfl, hg⟩
        have HGx := Lib.hid (grownBy_trans HGv.out hg)
        clear hg
        go_wp2
        go_ret
        exact ⟨rfl, HGx.out⟩
      case pos =>
        subst h5
        obtain ⟨q1, q2, q3⟩ := HZ3.out rfl
        have hnx : nameB x = true := by
          cases e : nameB x with
          | true => rfl
          | false =>
            have h9 := HN.out
            rw [e, q2] at h9
            simp at h9
        have HSu3 : Hid (R3 = okForm (formOfX (plusX (delX (oneF t1) x) (coefX t1 x) t2) (0 + 1 * c1 + coefX t1 x * c2))) := by show _ = _; rw [HL3.out]; exact if_pos rfl
        obtain ⟨x0, x1, xf⟩ := cell_of_two HMo.out.x
        obtain ⟨y0, y1, yf⟩ := cell_of_two HMo.out.y
        have H1 := Lib.hid q1
        have H2 := Lib.hid q3
        have HNx := Lib.hid hnx
        clear q1 q2 q3 hnx
        go_upto_region 22 with fail
        have hq := putOf_any c1 c2 t1 t2 x _ _ wo HMo.out.tx HMo.out.ty H1.out H2.out HNx.out
        generalize hGG : formOfX (plusX (delX (oneF t1) x) (coefX t1 x) t2) (0 + 1 * c1 + coefX t1 x * c2) = G at *
        refine hq.mono ?_
        rintro e wp ⟨v, rfl, hv, hg⟩
        clear hq hGG x0 x1 xf y0 y1 yf H1 H2 HNx
        obtain ⟨pv, cv, rfl, -⟩ := id hv
        have HV := Lib.hid hv
        have HGp := Lib.hid hg
        have HMp := Lib.hid (HMo.out.kept hg)
        have HAp : Hid (∃ v, wp.heap[Z]? = some (.cells #[.int .i64 (((0, []) : CondD)).1, v] 28 (0, 0)) ∧ TermsAt wp v (((0, []) : CondD)).2) := by
          obtain ⟨u, u1, u2⟩ := HAo.out
          exact ⟨u, heap_keep u1 hg (by simp), u2.kept hg⟩
        have HA2p := Lib.hid (heap_keep HA2o.out hg (by simp))
        clear hg hv HMo HAo
        obtain ⟨z0, z1, zf⟩ := cell_of_two HA2p.out
        go_upto_region 22 with fail
        obtain ⟨f1, f2⟩ := two_set HA2p.out (.int .i64 G.1) (.slice pv G.2.length cv)
        have HM' := Lib.hid (HMp.out.set HA2o.out HGp.out f2 (by have := HLt.out; omega) (by have := HLt.out; omega) (by have := HLt.out; omega) (by have := HLt.out; omega) (by have := HLt.out; omega))
        have HA2' := Lib.hid f1
        have HA' : Hid (∃ v, ((wp.setCell ⟨Z + 1, 0, none⟩ (.int .i64 G.1)).setCell ⟨Z + 1, 1, none⟩ (.slice pv G.2.length cv)).heap[Z]? = some (.cells #[.int .i64 (((0, []) : CondD)).1, v] 28 (0, 0)) ∧ TermsAt ((wp.setCell ⟨Z + 1, 0, none⟩ (.int .i64 G.1)).setCell ⟨Z + 1, 1, none⟩ (.slice pv G.2.length cv)) v (((0, []) : CondD)).2) := by
          obtain ⟨u, u1, u2⟩ := HAp.out
          exact ⟨u, heap_keep u1 f2 (by simp), u2.later_set HA2o.out HGp.out f2⟩
        have HV' : Hid (TermsAt _ (.slice pv G.2.length cv) G.2) := HV.out.later_set HA2o.out HGp.out f2
        clear z0 z1 zf f1 f2 HMp HAp HA2p HV HA2o HGp
        generalize (wp.setCell ⟨Z + 1, 0, none⟩ (.int .i64 G.1)).setCell ⟨Z + 1, 1, none⟩ (.slice pv G.2.length cv) = wq at *
        obtain ⟨z0, z1, zf⟩ := cell_of_two HA2'.out
        go_upto_region 23 with fail
        obtain ⟨_, _, e9, hl9, hc9⟩ := HV'.out
        cases e9
        refine (formFault_at G.1 G.2 pv cv wq hl9 hc9).mono ?_
        rintro e wr ⟨rfl, hg⟩
        clear z0 z1 zf hl9 hc9
        have HMr := Lib.hid (HM'.out.kept hg)
        have HA2r := Lib.hid (heap_keep HA2'.out hg (by simp))
        have HVr := Lib.hid (HV'.out.kept hg)
        have HAr : Hid (∃ v, wr.heap[Z]? = some (.cells #[.int .i64 (((0, []) : CondD)).1, v] 28 (0, 0)) ∧ TermsAt wr v (((0, []) : CondD)).2) := by
          obtain ⟨u, u1, u2⟩ := HA'.out
          exact ⟨u, heap_keep u1 hg (by simp), u2.kept hg⟩
        clear hg HM' HA' HA2' HV'
        by_cases h6 : formErr G.1 G.2 = 0
        case pos =>
          have HR3a : Hid (R3.1 = G) := by show _ = _; rw [HSu3.out]; unfold okForm; rw [if_neg (by simp [h6])]
          have HR3b : Hid (R3.2 = 0) := by show _ = _; rw [HSu3.out]; unfold okForm; rw [if_neg (by simp [h6])]
          rw [h6]
          clear h6
          go_upto_region 25 with fail
          generalize hwt : wr = wt at *
          have HMt := Lib.hid HMr.out
          have HAt := Lib.hid HAr.out
          have HPt : Hid (∃ v, wt.heap[Z + 1]? = some (.cells #[.int .i64 G.1, v] 28 (0, 0)) ∧ TermsAt wt v G.2) := ⟨_, HA2r.out, HVr.out⟩
          clear HMr HAr HA2r HVr hwt
          obtain ⟨s0, s1, sf⟩ := cell_of_two HMt.out.s
          obtain ⟨p0, p1', pf⟩ := cell_of_two HMt.out.p
          obtain ⟨va, ha1, ha2⟩ := HAt.out
          obtain ⟨vp', hp1, hp2⟩ := HPt.out
          obtain ⟨pa, ca, rfl, -⟩ := id ha2
          obtain ⟨pp, cp, rfl, -⟩ := id hp2
          obtain ⟨z0, z1, zf⟩ := cell_of_two ha1
          obtain ⟨y0, y1, yf⟩ := cell_of_two hp1
          have b1 : (R1.2 == E1) = true := by simp [HRb.out]
          have b2 : (R1.1 == 0) = true := by simp [HRa.out]
          have b3 : (R2.2 == E2) = true := by simp [HR2b.out]
          have b4 : (R3.2 == 0) = true := by simp [HR3b.out]
          have HA2t := Lib.hid ha2
          have HP2t := Lib.hid hp2
          have HP1t := Lib.hid hp1
          have e1 : eqForm R2.1 ((0, []) : CondD) = true := by rw [HR2a.out]; simp [eqForm]
          have e2 : eqForm R3.1 G = true := by rw [HR3a.out]; simp [eqForm]
          have HE1 := Lib.hid e1
          have HE2 := Lib.hid e2
          clear ha1 ha2 hp1 hp2 e1 e2 HR2a HR2b HR3a HR3b HRa HRb
          go_wp2_with fail
          refine (sameForm_any R2.1 ((0, []) : CondD) _ _ _ HMt.out.ts HA2t.out).mono ?_
          rintro e wu ⟨rfl, hg⟩
          rw [HE1.out]
          clear s0 s1 sf p0 p1' pf z0 z1 zf y0 y1 yf
          have HMu := Lib.hid (HMt.out.kept hg)
          have HP2u := Lib.hid (HP2t.out.kept hg)
          obtain ⟨p0, p1', pf⟩ := cell_of_two HMu.out.p
          obtain ⟨y0, y1, yf⟩ := cell_of_two (heap_keep HP1t.out hg (by simp))
          clear hg
          go_wp2_with fail
          refine (sameForm_any R3.1 G _ _ _ HMu.out.tq HP2u.out).mono ?_
          rintro e wv ⟨rfl, hg⟩
          rw [HE2.out]
          clear p0 p1' pf y0 y1 yf
          have HGv := Lib.hid (grownBy_trans HMu.out.g hg)
          clear hg
          go_wp2_with fail
          refine (nested_any _).mono ?_
          rintro e wx ⟨rfl, hg⟩
          have HGx := Lib.hid (grownBy_trans HGv.out hg)
          clear hg
          go_wp2
          go_ret
          exact ⟨rfl, HGx.out⟩
        case neg =>
          have HR3a : Hid (R3.1 = (0, [])) := by show _ = _; rw [HSu3.out]; unfold okForm; rw [if_pos h6]
          have HR3b : Hid (R3.2 = formErr G.1 G.2) := by show _ = _; rw [HSu3.out]; unfold okForm; rw [if_pos h6]
          have h6b : (formErr G.1 G.2 != 0) = true := by simpa using h6
          clear h6
          generalize formErr G.1 G.2 = E8 at *
          obtain ⟨z0, z1, zf⟩ := cell_of_two HA2r.out
          go_upto_region 25 with fail
          obtain ⟨f1, f2⟩ := two_set HA2r.out (.int .i64 0) (.slice none 0 0)
          have HMt := Lib.hid (HMr.out.set HA2r.out (grownBy_refl _ _) f2 (by have := HLt.out; omega) (by have := HLt.out; omega) (by have := HLt.out; omega) (by have := HLt.out; omega) (by have := HLt.out; omega))
          have HAf := Lib.hid f1
          have HA' : Hid (∃ v, ((wr.setCell ⟨Z + 1, 0, none⟩ (.int .i64 0)).setCell ⟨Z + 1, 1, none⟩ (.slice none 0 0)).heap[Z]? = some (.cells #[.int .i64 (((0, []) : CondD)).1, v] 28 (0, 0)) ∧ TermsAt ((wr.setCell ⟨Z + 1, 0, none⟩ (.int .i64 0)).setCell ⟨Z + 1, 1, none⟩ (.slice none 0 0)) v (((0, []) : CondD)).2) := by
            obtain ⟨u, u1, u2⟩ := HAr.out
            exact ⟨u, heap_keep u1 f2 (by simp), u2.later_set HA2r.out (grownBy_refl _ _) f2⟩
          clear z0 z1 zf f1 f2 HMr HAr HA2r HVr
          generalize (wr.setCell ⟨Z + 1, 0, none⟩ (.int .i64 0)).setCell ⟨Z + 1, 1, none⟩ (.slice none 0 0) = wt at *
          have HAt := Lib.hid HA'.out
          have HPt : Hid (∃ v, wt.heap[Z + 1]? = some (.cells #[.int .i64 ((0, []) : CondD).1, v] 28 (0, 0)) ∧ TermsAt wt v ((0, []) : CondD).2) := ⟨_, HAf.out, terms_nil _ _ _⟩
          clear HAf HA'
          obtain ⟨s0, s1, sf⟩ := cell_of_two HMt.out.s
          obtain ⟨p0, p1', pf⟩ := cell_of_two HMt.out.p
          obtain ⟨va, ha1, ha2⟩ := HAt.out
          obtain ⟨vp', hp1, hp2⟩ := HPt.out
          obtain ⟨pa, ca, rfl, -⟩ := id ha2
          obtain ⟨pp, cp, rfl, -⟩ := id hp2
          obtain ⟨z0, z1, zf⟩ := cell_of_two ha1
          obtain ⟨y0, y1, yf⟩ := cell_of_two hp1
          have b1 : (R1.2 == E1) = true := by simp [HRb.out]
          have b2 : (R1.1 == 0) = true := by simp [HRa.out]
          have b3 : (R2.2 == E2) = true := by simp [HR2b.out]
          have b4 : (R3.2 == E8) = true := by simp [HR3b.out]
          have HA2t := Lib.hid ha2
          have HP2t := Lib.hid hp2
          have HP1t := Lib.hid hp1
          have e1 : eqForm R2.1 ((0, []) : CondD) = true := by rw [HR2a.out]; simp [eqForm]
          have e2 : eqForm R3.1 ((0, []) : CondD) = true := by rw [HR3a.out]; simp [eqForm]
          have HE1 := Lib.hid e1
          have HE2 := Lib.hid e2
          clear ha1 ha2 hp1 hp2 e1 e2 HR2a HR2b HR3a HR3b HRa HRb
          go_wp2_with fail
          refine (sameForm_any R2.1 ((0, []) : CondD) _ _ _ HMt.out.ts HA2t.out).mono ?_
          rintro e wu ⟨rfl, hg⟩
          rw [HE1.out]
          clear s0 s1 sf p0 p1' pf z0 z1 zf y0 y1 yf
          have HMu := Lib.hid (HMt.out.kept hg)
          have HP2u := Lib.hid (HP2t.out.kept hg)
          obtain ⟨p0, p1', pf⟩ := cell_of_two HMu.out.p
          obtain ⟨y0, y1, yf⟩ := cell_of_two (heap_keep HP1t.out hg (by simp))
          clear hg
          go_wp2_with fail
          refine (sameForm_any R3.1 ((0, []) : CondD) _ _ _ HMu.out.tq HP2u.out).mono ?_
          rintro e wv ⟨rfl, hg⟩
          rw [HE2.out]
          clear p0 p1' pf y0 y1 yf
          have HGv := Lib.hid (grownBy_trans HMu.out.g hg)
          clear hg
          go_wp2_with fail
          refine (nested_any _).mono ?_
          rintro e wx ⟨rfl, hg⟩
          have HGx := Lib.hid (grownBy_trans HGv.out hg)
          clear hg
          go_wp2
          go_ret
          exact ⟨rfl, HGx.out⟩
    case pos =>
      subst h2
      obtain ⟨q1, q2, q3, q4⟩ := HZ2.out rfl
      have HSu : Hid (R2 = okForm (formOfX (plusX (plusX (fun _ => 0) a t1) b t2) (0 + a * c1 + b * c2))) := by show _ = _; rw [HL2.out]; exact if_pos rfl
      have hra := in_range ((span_in a).1 q3)
      have hrb := in_range ((span_in b).1 q4)
      obtain ⟨x0, x1, xf⟩ := cell_of_two HMn.out.x
      obtain ⟨y0, y1, yf⟩ := cell_of_two HMn.out.y
      have H1 := Lib.hid q1
      have H2 := Lib.hid q2
      clear q1 q2 q3 q4
      go_upto_region 17 with fail
      have hq := sumOf_any c1 c2 t1 t2 a b _ _ wn HMn.out.tx HMn.out.ty H1.out H2.out hra hrb
      generalize hFF : formOfX (plusX (plusX (fun _ => 0) a t1) b t2) (0 + a * c1 + b * c2) = F at *
      refine hq.mono ?_
      rintro e wp ⟨v, rfl, hv, hg⟩
      clear hq hFF x0 x1 xf y0 y1 yf hra hrb H1 H2
      obtain ⟨pv, cv, rfl, -⟩ := id hv
      have HV := Lib.hid hv
      have HGp := Lib.hid hg
      have HMp := Lib.hid (HMn.out.kept hg)
      have HA1p := Lib.hid (heap_keep HA1n.out hg (by simp))
      have HA2p := Lib.hid (heap_keep HA2n.out hg (by simp))
      clear hg hv HMn HA2n
      obtain ⟨z0, z1, zf⟩ := cell_of_two HA1p.out
      go_upto_region 17 with fail
      obtain ⟨f1, f2⟩ := two_set HA1p.out (.int .i64 F.1) (.slice pv F.2.length cv)
      have HM' := Lib.hid (HMp.out.set HA1n.out HGp.out f2 (by have := HLt.out; omega) (by have := HLt.out; omega) (by have := HLt.out; omega) (by have := HLt.out; omega) (by have := HLt.out; omega))
      have HA1' := Lib.hid f1
      have HA2' := Lib.hid (heap_keep HA2p.out f2 (by simp))
      have HV' : Hid (TermsAt _ (.slice pv F.2.length cv) F.2) := HV.out.later_set HA1n.out HGp.out f2
      clear z0 z1 zf f1 f2 HMp HA1p HA2p HV HA1n HGp
      generalize (wp.setCell ⟨Z, 0, none⟩ (.int .i64 F.1)).setCell ⟨Z, 1, none⟩ (.slice pv F.2.length cv) = wq at *
      obtain ⟨z0, z1, zf⟩ := cell_of_two HA1'.out
      go_upto_region 18 with fail
      obtain ⟨_, _, e9, hl9, hc9⟩ := HV'.out
      cases e9
      refine (formFault_at F.1 F.2 pv cv wq hl9 hc9).mono ?_
      rintro e wr ⟨rfl, hg⟩
      clear z0 z1 zf hl9 hc9
      have HMr := Lib.hid (HM'.out.kept hg)
      have HA1r := Lib.hid (heap_keep HA1'.out hg (by simp))
      have HA2r := Lib.hid (heap_keep HA2'.out hg (by simp))
      have HVr := Lib.hid (HV'.out.kept hg)
      clear hg HM' HA1' HA2' HV'
      by_cases h3 : formErr F.1 F.2 = 0
      case pos =>
        have HR2a : Hid (R2.1 = F) := by show _ = _; rw [HSu.out]; unfold okForm; rw [if_neg (by simp [h3])]
        have HR2b : Hid (R2.2 = 0) := by show _ = _; rw [HSu.out]; unfold okForm; rw [if_neg (by simp [h3])]
        have h3b : (formErr F.1 F.2 != 0) = false := by simp [h3]
        rw [h3]
        clear h3 h3b
        go_upto_region 20 with fail
        generalize hwo : wr = wo at *
        have HMo := Lib.hid HMr.out
        have HAo : Hid (∃ v, wo.heap[Z]? = some (.cells #[.int .i64 F.1, v] 28 (0, 0)) ∧ TermsAt wo v F.2) := ⟨_, HA1r.out, HVr.out⟩
        have HA2o := Lib.hid HA2r.out
        clear HMr HA1r HA2r HVr hwo
        by_cases h5 : E3 = 0
        case neg =>
          have h5b : (E3 == 0) = false := by simpa using h5
          have HR3a : Hid (R3.1 = (0, [])) := by show _ = _; rw [HL3.out, if_neg h5]
          have HR3b : Hid (R3.2 = E3) := by show _ = _; rw [HL3.out, if_neg h5]
          clear h5
          go_upto_region 25 with fail
          generalize hwt : wo = wt at *
          have HMt := Lib.hid HMo.out
          have HAt := Lib.hid HAo.out
          have HPt : Hid (∃ v, wt.heap[Z + 1]? = some (.cells #[.int .i64 ((0, []) : CondD).1, v] 28 (0, 0)) ∧ TermsAt wt v ((0, []) : CondD).2) := ⟨_, HA2o.out, terms_nil _ _ _⟩
          clear HMo HAo HA2o hwt
          obtain ⟨s0, s1, sf⟩ := cell_of_two HMt.out.s
          obtain ⟨p0, p1', pf⟩ := cell_of_two HMt.out.p
          obtain ⟨va, ha1, ha2⟩ := HAt.out
          obtain ⟨vp', hp1, hp2⟩ := HPt.out
          obtain ⟨pa, ca, rfl, -⟩ := id ha2
          obtain ⟨pp, cp, rfl, -⟩ := id hp2
          obtain ⟨z0, z1, zf⟩ := cell_of_two ha1
          obtain ⟨y0, y1, yf⟩ := cell_of_two hp1
          have b1 : (R1.2 == E1) = true := by simp [HRb.out]
          have b2 : (R1.1 == 0) = true := by simp [HRa.out]
          have b3 : (R2.2 == 0) = true := by simp [HR2b.out]
          have b4 : (R3.2 == E3) = true := by simp [HR3b.out]
          have HA2t := Lib.hid ha2
          have HP2t := Lib.hid hp2
          have HP1t := Lib.hid hp1
          have e1 : eqForm R2.1 F = true := by rw [HR2a.out]; simp [eqForm]
          have e2 : eqForm R3.1 ((0, []) : CondD) = true := by rw [HR3a.out]; simp [eqForm]
          have HE1 := Lib.hid e1
          have HE2 := Lib.hid e2
          clear ha1 ha2 hp1 hp2 e1 e2 HR2a HR2b HR3a HR3b HRa HRb
          go_wp2_with fail
          refine (sameForm_any R2.1 F _ _ _ HMt.out.ts HA2t.out).mono ?_
          rintro e wu ⟨rfl, hg⟩
          rw [HE1.out]
          clear s0 s1 sf p0 p1' pf z0 z1 zf y0 y1 yf
          have HMu := Lib.hid (HMt.out.kept hg)
          have HP2u := Lib.hid (HP2t.out.kept hg)
          obtain ⟨p0, p1', pf⟩ := cell_of_two HMu.out.p
          obtain ⟨y0, y1, yf⟩ := cell_of_two (heap_keep HP1t.out hg (by simp))
          clear hg
          go_wp2_with fail
          refine (sameForm_any R3.1 ((0, []) : CondD) _ _ _ HMu.out.tq HP2u.out).mono ?_
          rintro e wv ⟨rfl, hg⟩
          rw [HE2.out]
          clear p0 p1' pf y0 y1 yf
          have HGv := Lib.hid (grownBy_trans HMu.out.g hg)
          clear hg
          go_wp2_with fail
          refine (nested_any _).mono ?_
          rintro e wx ⟨rfl, hg⟩
          have HGx := Lib.hid (grownBy_trans HGv.out hg)
          clear hg
          go_wp2
          go_ret
          exact ⟨rfl, HGx.out⟩
        case pos =>
          subst h5
          obtain ⟨q1, q2, q3⟩ := HZ3.out rfl
          have hnx : nameB x = true := by
            cases e : nameB x with
            | true => rfl
            | false =>
              have h9 := HN.out
              rw [e, q2] at h9
              simp at h9
          have HSu3 : Hid (R3 = okForm (formOfX (plusX (delX (oneF t1) x) (coefX t1 x) t2) (0 + 1 * c1 + coefX t1 x * c2))) := by show _ = _; rw [HL3.out]; exact if_pos rfl
          obtain ⟨x0, x1, xf⟩ := cell_of_two HMo.out.x
          obtain ⟨y0, y1, yf⟩ := cell_of_two HMo.out.y
          have H1 := Lib.hid q1
          have H2 := Lib.hid q3
          have HNx := Lib.hid hnx
          clear q1 q2 q3 hnx
          go_upto_region 22 with fail
          have hq := putOf_any c1 c2 t1 t2 x _ _ wo HMo.out.tx HMo.out.ty H1.out H2.out HNx.out
          generalize hGG : formOfX (plusX (delX (oneF t1) x) (coefX t1 x) t2) (0 + 1 * c1 + coefX t1 x * c2) = G at *
          refine hq.mono ?_
          rintro e wp ⟨v, rfl, hv, hg⟩
          clear hq hGG x0 x1 xf y0 y1 yf H1 H2 HNx
          obtain ⟨pv, cv, rfl, -⟩ := id hv
          have HV := Lib.hid hv
          have HGp := Lib.hid hg
          have HMp := Lib.hid (HMo.out.kept hg)
          have HAp : Hid (∃ v, wp.heap[Z]? = some (.cells #[.int .i64 (F).1, v] 28 (0, 0)) ∧ TermsAt wp v (F).2) := by
            obtain ⟨u, u1, u2⟩ := HAo.out
            exact ⟨u, heap_keep u1 hg (by simp), u2.kept hg⟩
          have HA2p := Lib.hid (heap_keep HA2o.out hg (by simp))
          clear hg hv HMo HAo
          obtain ⟨z0, z1, zf⟩ := cell_of_two HA2p.out
          go_upto_region 22 with fail
          obtain ⟨f1, f2⟩ := two_set HA2p.out (.int .i64 G.1) (.slice pv G.2.length cv)
          have HM' := Lib.hid (HMp.out.set HA2o.out HGp.out f2 (by have := HLt.out; omega) (by have := HLt.out; omega) (by have := HLt.out; omega) (by have := HLt.out; omega) (by have := HLt.out; omega))
          have HA2' := Lib.hid f1
          have HA' : Hid (∃ v, ((wp.setCell ⟨Z + 1, 0, none⟩ (.int .i64 G.1)).setCell ⟨Z + 1, 1, none⟩ (.slice pv G.2.length cv)).heap[Z]? = some (.cells #[.int .i64 (F).1, v] 28 (0, 0)) ∧ TermsAt ((wp.setCell ⟨Z + 1, 0, none⟩ (.int .i64 G.1)).setCell ⟨Z + 1, 1, none⟩ (.slice pv G.2.length cv)) v (F).2) := by
            obtain ⟨u, u1, u2⟩ := HAp.out
            exact ⟨u, heap_keep u1 f2 (by simp), u2.later_set HA2o.out HGp.out f2⟩
          have HV' : Hid (TermsAt _ (.slice pv G.2.length cv) G.2) := HV.out.later_set HA2o.out HGp.out f2
          clear z0 z1 zf f1 f2 HMp HAp HA2p HV HA2o HGp
          generalize (wp.setCell ⟨Z + 1, 0, none⟩ (.int .i64 G.1)).setCell ⟨Z + 1, 1, none⟩ (.slice pv G.2.length cv) = wq at *
          obtain ⟨z0, z1, zf⟩ := cell_of_two HA2'.out
          go_upto_region 23 with fail
          obtain ⟨_, _, e9, hl9, hc9⟩ := HV'.out
          cases e9
          refine (formFault_at G.1 G.2 pv cv wq hl9 hc9).mono ?_
          rintro e wr ⟨rfl, hg⟩
          clear z0 z1 zf hl9 hc9
          have HMr := Lib.hid (HM'.out.kept hg)
          have HA2r := Lib.hid (heap_keep HA2'.out hg (by simp))
          have HVr := Lib.hid (HV'.out.kept hg)
          have HAr : Hid (∃ v, wr.heap[Z]? = some (.cells #[.int .i64 (F).1, v] 28 (0, 0)) ∧ TermsAt wr v (F).2) := by
            obtain ⟨u, u1, u2⟩ := HA'.out
            exact ⟨u, heap_keep u1 hg (by simp), u2.kept hg⟩
          clear hg HM' HA' HA2' HV'
          by_cases h6 : formErr G.1 G.2 = 0
          case pos =>
            have HR3a : Hid (R3.1 = G) := by show _ = _; rw [HSu3.out]; unfold okForm; rw [if_neg (by simp [h6])]
            have HR3b : Hid (R3.2 = 0) := by show _ = _; rw [HSu3.out]; unfold okForm; rw [if_neg (by simp [h6])]
            rw [h6]
            clear h6
            go_upto_region 25 with fail
            generalize hwt : wr = wt at *
            have HMt := Lib.hid HMr.out
            have HAt := Lib.hid HAr.out
            have HPt : Hid (∃ v, wt.heap[Z + 1]? = some (.cells #[.int .i64 G.1, v] 28 (0, 0)) ∧ TermsAt wt v G.2) := ⟨_, HA2r.out, HVr.out⟩
            clear HMr HAr HA2r HVr hwt
            obtain ⟨s0, s1, sf⟩ := cell_of_two HMt.out.s
            obtain ⟨p0, p1', pf⟩ := cell_of_two HMt.out.p
            obtain ⟨va, ha1, ha2⟩ := HAt.out
            obtain ⟨vp', hp1, hp2⟩ := HPt.out
            obtain ⟨pa, ca, rfl, -⟩ := id ha2
            obtain ⟨pp, cp, rfl, -⟩ := id hp2
            obtain ⟨z0, z1, zf⟩ := cell_of_two ha1
            obtain ⟨y0, y1, yf⟩ := cell_of_two hp1
            have b1 : (R1.2 == E1) = true := by simp [HRb.out]
            have b2 : (R1.1 == 0) = true := by simp [HRa.out]
            have b3 : (R2.2 == 0) = true := by simp [HR2b.out]
            have b4 : (R3.2 == 0) = true := by simp [HR3b.out]
            have HA2t := Lib.hid ha2
            have HP2t := Lib.hid hp2
            have HP1t := Lib.hid hp1
            have e1 : eqForm R2.1 F = true := by rw [HR2a.out]; simp [eqForm]
            have e2 : eqForm R3.1 G = true := by rw [HR3a.out]; simp [eqForm]
            have HE1 := Lib.hid e1
            have HE2 := Lib.hid e2
            clear ha1 ha2 hp1 hp2 e1 e2 HR2a HR2b HR3a HR3b HRa HRb
            go_wp2_with fail
            refine (sameForm_any R2.1 F _ _ _ HMt.out.ts HA2t.out).mono ?_
            rintro e wu ⟨rfl, hg⟩
            rw [HE1.out]
            clear s0 s1 sf p0 p1' pf z0 z1 zf y0 y1 yf
            have HMu := Lib.hid (HMt.out.kept hg)
            have HP2u := Lib.hid (HP2t.out.kept hg)
            obtain ⟨p0, p1', pf⟩ := cell_of_two HMu.out.p
            obtain ⟨y0, y1, yf⟩ := cell_of_two (heap_keep HP1t.out hg (by simp))
            clear hg
            go_wp2_with fail
            refine (sameForm_any R3.1 G _ _ _ HMu.out.tq HP2u.out).mono ?_
            rintro e wv ⟨rfl, hg⟩
            rw [HE2.out]
            clear p0 p1' pf y0 y1 yf
            have HGv := Lib.hid (grownBy_trans HMu.out.g hg)
            clear hg
            go_wp2_with fail
            refine (nested_any _).mono ?_
            rintro e wx ⟨rfl, hg⟩
            have HGx := Lib.hid (grownBy_trans HGv.out hg)
            clear hg
            go_wp2
            go_ret
            exact ⟨rfl, HGx.out⟩
          case neg =>
            have HR3a : Hid (R3.1 = (0, [])) := by show _ = _; rw [HSu3.out]; unfold okForm; rw [if_pos h6]
            have HR3b : Hid (R3.2 = formErr G.1 G.2) := by show _ = _; rw [HSu3.out]; unfold okForm; rw [if_pos h6]
            have h6b : (formErr G.1 G.2 != 0) = true := by simpa using h6
            clear h6
            generalize formErr G.1 G.2 = E8 at *
            obtain ⟨z0, z1, zf⟩ := cell_of_two HA2r.out
            go_upto_region 25 with fail
            obtain ⟨f1, f2⟩ := two_set HA2r.out (.int .i64 0) (.slice none 0 0)
            have HMt := Lib.hid (HMr.out.set HA2r.out (grownBy_refl _ _) f2 (by have := HLt.out; omega) (by have := HLt.out; omega) (by have := HLt.out; omega) (by have := HLt.out; omega) (by have := HLt.out; omega))
            have HAf := Lib.hid f1
            have HA' : Hid (∃ v, ((wr.setCell ⟨Z + 1, 0, none⟩ (.int .i64 0)).setCell ⟨Z + 1, 1, none⟩ (.slice none 0 0)).heap[Z]? = some (.cells #[.int .i64 (F).1, v] 28 (0, 0)) ∧ TermsAt ((wr.setCell ⟨Z + 1, 0, none⟩ (.int .i64 0)).setCell ⟨Z + 1, 1, none⟩ (.slice none 0 0)) v (F).2) := by
              obtain ⟨u, u1, u2⟩ := HAr.out
              exact ⟨u, heap_keep u1 f2 (by simp), u2.later_set HA2r.out (grownBy_refl _ _) f2⟩
            clear z0 z1 zf f1 f2 HMr HAr HA2r HVr
            generalize (wr.setCell ⟨Z + 1, 0, none⟩ (.int .i64 0)).setCell ⟨Z + 1, 1, none⟩ (.slice none 0 0) = wt at *
            have HAt := Lib.hid HA'.out
            have HPt : Hid (∃ v, wt.heap[Z + 1]? = some (.cells #[.int .i64 ((0, []) : CondD).1, v] 28 (0, 0)) ∧ TermsAt wt v ((0, []) : CondD).2) := ⟨_, HAf.out, terms_nil _ _ _⟩
            clear HAf HA'
            obtain ⟨s0, s1, sf⟩ := cell_of_two HMt.out.s
            obtain ⟨p0, p1', pf⟩ := cell_of_two HMt.out.p
            obtain ⟨va, ha1, ha2⟩ := HAt.out
            obtain ⟨vp', hp1, hp2⟩ := HPt.out
            obtain ⟨pa, ca, rfl, -⟩ := id ha2
            obtain ⟨pp, cp, rfl, -⟩ := id hp2
            obtain ⟨z0, z1, zf⟩ := cell_of_two ha1
            obtain ⟨y0, y1, yf⟩ := cell_of_two hp1
            have b1 : (R1.2 == E1) = true := by simp [HRb.out]
            have b2 : (R1.1 == 0) = true := by simp [HRa.out]
            have b3 : (R2.2 == 0) = true := by simp [HR2b.out]
            have b4 : (R3.2 == E8) = true := by simp [HR3b.out]
            have HA2t := Lib.hid ha2
            have HP2t := Lib.hid hp2
            have HP1t := Lib.hid hp1
            have e1 : eqForm R2.1 F = true := by rw [HR2a.out]; simp [eqForm]
            have e2 : eqForm R3.1 ((0, []) : CondD) = true := by rw [HR3a.out]; simp [eqForm]
            have HE1 := Lib.hid e1
            have HE2 := Lib.hid e2
            clear ha1 ha2 hp1 hp2 e1 e2 HR2a HR2b HR3a HR3b HRa HRb
            go_wp2_with fail
            refine (sameForm_any R2.1 F _ _ _ HMt.out.ts HA2t.out).mono ?_
            rintro e wu ⟨rfl, hg⟩
            rw [HE1.out]
            clear s0 s1 sf p0 p1' pf z0 z1 zf y0 y1 yf
            have HMu := Lib.hid (HMt.out.kept hg)
            have HP2u := Lib.hid (HP2t.out.kept hg)
            obtain ⟨p0, p1', pf⟩ := cell_of_two HMu.out.p
            obtain ⟨y0, y1, yf⟩ := cell_of_two (heap_keep HP1t.out hg (by simp))
            clear hg
            go_wp2_with fail
            refine (sameForm_any R3.1 ((0, []) : CondD) _ _ _ HMu.out.tq HP2u.out).mono ?_
            rintro e wv ⟨rfl, hg⟩
            rw [HE2.out]
            clear p0 p1' pf y0 y1 yf
            have HGv := Lib.hid (grownBy_trans HMu.out.g hg)
            clear hg
            go_wp2_with fail
            refine (nested_any _).mono ?_
            rintro e wx ⟨rfl, hg⟩
            have HGx := Lib.hid (grownBy_trans HGv.out hg)
            clear hg
            go_wp2
            go_ret
            exact ⟨rfl, HGx.out⟩
      case neg =>
        have HR2a : Hid (R2.1 = (0, [])) := by show _ = _; rw [HSu.out]; unfold okForm; rw [if_pos h3]
        have HR2b : Hid (R2.2 = formErr F.1 F.2) := by show _ = _; rw [HSu.out]; unfold okForm; rw [if_pos h3]
        have h3b : (formErr F.1 F.2 != 0) = true := by simpa using h3
        clear h3
        generalize formErr F.1 F.2 = E9 at *
        obtain ⟨z0, z1, zf⟩ := cell_of_two HA1r.out
        go_upto_region 20 with fail
        obtain ⟨f1, f2⟩ := two_set HA1r.out (.int .i64 0) (.slice none 0 0)
        have HMo := Lib.hid (HMr.out.set HA1r.out (grownBy_refl _ _) f2 (by have := HLt.out; omega) (by have := HLt.out; omega) (by have := HLt.out; omega) (by have := HLt.out; omega) (by have := HLt.out; omega))
        have HA2o := Lib.hid (heap_keep HA2r.out f2 (by simp))
        have HAf := Lib.hid f1
        clear z0 z1 zf f1 f2 HMr HA1r HA2r HVr
        generalize (wr.setCell ⟨Z, 0, none⟩ (.int .i64 0)).setCell ⟨Z, 1, none⟩ (.slice none 0 0) = wo at *
        have HAo : Hid (∃ v, wo.heap[Z]? = some (.cells #[.int .i64 ((0, []) : CondD).1, v] 28 (0, 0)) ∧ TermsAt wo v ((0, []) : CondD).2) := ⟨_, HAf.out, terms_nil _ _ _⟩
        clear HAf
        by_cases h5 : E3 = 0
        case neg =>
          have h5b : (E3 == 0) = false := by simpa using h5
          have HR3a : Hid (R3.1 = (0, [])) := by show _ = _; rw [HL3.out, if_neg h5]
          have HR3b : Hid (R3.2 = E3) := by show _ = _; rw [HL3.out, if_neg h5]
          clear h5
          go_upto_region 25 with fail
          generalize hwt : wo = wt at *
          have HMt := Lib.hid HMo.out
          have HAt := Lib.hid HAo.out
          have HPt : Hid (∃ v, wt.heap[Z + 1]? = some (.cells #[.int .i64 ((0, []) : CondD).1, v] 28 (0, 0)) ∧ TermsAt wt v ((0, []) : CondD).2) := ⟨_, HA2o.out, terms_nil _ _ _⟩
          clear HMo HAo HA2o hwt
          obtain ⟨s0, s1, sf⟩ := cell_of_two HMt.out.s
          obtain ⟨p0, p1', pf⟩ := cell_of_two HMt.out.p
          obtain ⟨va, ha1, ha2⟩ := HAt.out
          obtain ⟨vp', hp1, hp2⟩ := HPt.out
          obtain ⟨pa, ca, rfl, -⟩ := id ha2
          obtain ⟨pp, cp, rfl, -⟩ := id hp2
          obtain ⟨z0, z1, zf⟩ := cell_of_two ha1
          obtain ⟨y0, y1, yf⟩ := cell_of_two hp1
          have b1 : (R1.2 == E1) = true := by simp [HRb.out]
          have b2 : (R1.1 == 0) = true := by simp [HRa.out]
          have b3 : (R2.2 == E9) = true := by simp [HR2b.out]
          have b4 : (R3.2 == E3) = true := by simp [HR3b.out]
          have HA2t := Lib.hid ha2
          have HP2t := Lib.hid hp2
          have HP1t := Lib.hid hp1
          have e1 : eqForm R2.1 ((0, []) : CondD) = true := by rw [HR2a.out]; simp [eqForm]
          have e2 : eqForm R3.1 ((0, []) : CondD) = true := by rw [HR3a.out]; simp [eqForm]
          have HE1 := Lib.hid e1
          have HE2 := Lib.hid e2
          clear ha1 ha2 hp1 hp2 e1 e2 HR2a HR2b HR3a HR3b HRa HRb
          go_wp2_with fail
          refine (sameForm_any R2.1 ((0, []) : CondD) _ _ _ HMt.out.ts HA2t.out).mono ?_
          rintro e wu ⟨rfl, hg⟩
          rw [HE1.out]
          clear s0 s1 sf p0 p1' pf z0 z1 zf y0 y1 yf
          have HMu := Lib.hid (HMt.out.kept hg)
          have HP2u := Lib.hid (HP2t.out.kept hg)
          obtain ⟨p0, p1', pf⟩ := cell_of_two HMu.out.p
          obtain ⟨y0, y1, yf⟩ := cell_of_two (heap_keep HP1t.out hg (by simp))
          clear hg
          go_wp2_with fail
          refine (sameForm_any R3.1 ((0, []) : CondD) _ _ _ HMu.out.tq HP2u.out).mono ?_
          rintro e wv ⟨rfl, hg⟩
          rw [HE2.out]
          clear p0 p1' pf y0 y1 yf
          have HGv := Lib.hid (grownBy_trans HMu.out.g hg)
          clear hg
          go_wp2_with fail
          refine (nested_any _).mono ?_
          rintro e wx ⟨rfl, hg⟩
          have HGx := Lib.hid (grownBy_trans HGv.out hg)
          clear hg
          go_wp2
          go_ret
          exact ⟨rfl, HGx.out⟩
        case pos =>
          subst h5
          obtain ⟨q1, q2, q3⟩ := HZ3.out rfl
          have hnx : nameB x = true := by
            cases e : nameB x with
            | true => rfl
            | false =>
              have h9 := HN.out
              rw [e, q2] at h9
              simp at h9
          have HSu3 : Hid (R3 = okForm (formOfX (plusX (delX (oneF t1) x) (coefX t1 x) t2) (0 + 1 * c1 + coefX t1 x * c2))) := by show _ = _; rw [HL3.out]; exact if_pos rfl
          obtain ⟨x0, x1, xf⟩ := cell_of_two HMo.out.x
          obtain ⟨y0, y1, yf⟩ := cell_of_two HMo.out.y
          have H1 := Lib.hid q1
          have H2 := Lib.hid q3
          have HNx := Lib.hid hnx
          clear q1 q2 q3 hnx
          go_upto_region 22 with fail
          have hq := putOf_any c1 c2 t1 t2 x _ _ wo HMo.out.tx HMo.out.ty H1.out H2.out HNx.out
          generalize hGG : formOfX (plusX (delX (oneF t1) x) (coefX t1 x) t2) (0 + 1 * c1 + coefX t1 x * c2) = G at *
          refine hq.mono ?_
          rintro e wp ⟨v, rfl, hv, hg⟩
          clear hq hGG x0 x1 xf y0 y1 yf H1 H2 HNx
          obtain ⟨pv, cv, rfl, -⟩ := id hv
          have HV := Lib.hid hv
          have HGp := Lib.hid hg
          have HMp := Lib.hid (HMo.out.kept hg)
          have HAp : Hid (∃ v, wp.heap[Z]? = some (.cells #[.int .i64 (((0, []) : CondD)).1, v] 28 (0, 0)) ∧ TermsAt wp v (((0, []) : CondD)).2) := by
            obtain ⟨u, u1, u2⟩ := HAo.out
            exact ⟨u, heap_keep u1 hg (by simp), u2.kept hg⟩
          have HA2p := Lib.hid (heap_keep HA2o.out hg (by simp))
          clear hg hv HMo HAo
          obtain ⟨z0, z1, zf⟩ := cell_of_two HA2p.out
          go_upto_region 22 with fail
          obtain ⟨f1, f2⟩ := two_set HA2p.out (.int .i64 G.1) (.slice pv G.2.length cv)
          have HM' := Lib.hid (HMp.out.set HA2o.out HGp.out f2 (by have := HLt.out; omega) (by have := HLt.out; omega) (by have := HLt.out; omega) (by have := HLt.out; omega) (by have := HLt.out; omega))
          have HA2' := Lib.hid f1
          have HA' : Hid (∃ v, ((wp.setCell ⟨Z + 1, 0, none⟩ (.int .i64 G.1)).setCell ⟨Z + 1, 1, none⟩ (.slice pv G.2.length cv)).heap[Z]? = some (.cells #[.int .i64 (((0, []) : CondD)).1, v] 28 (0, 0)) ∧ TermsAt ((wp.setCell ⟨Z + 1, 0, none⟩ (.int .i64 G.1)).setCell ⟨Z + 1, 1, none⟩ (.slice pv G.2.length cv)) v (((0, []) : CondD)).2) := by
            obtain ⟨u, u1, u2⟩ := HAp.out
            exact ⟨u, heap_keep u1 f2 (by simp), u2.later_set HA2o.out HGp.out f2⟩
          have HV' : Hid (TermsAt _ (.slice pv G.2.length cv) G.2) := HV.out.later_set HA2o.out HGp.out f2
          clear z0 z1 zf f1 f2 HMp HAp HA2p HV HA2o HGp
          generalize (wp.setCell ⟨Z + 1, 0, none⟩ (.int .i64 G.1)).setCell ⟨Z + 1, 1, none⟩ (.slice pv G.2.length cv) = wq at *
          obtain ⟨z0, z1, zf⟩ := cell_of_two HA2'.out
          go_upto_region 23 with fail
          obtain ⟨_, _, e9, hl9, hc9⟩ := HV'.out
          cases e9
          refine (formFault_at G.1 G.2 pv cv wq hl9 hc9).mono ?_
          rintro e wr ⟨rfl, hg⟩
          clear z0 z1 zf hl9 hc9
          have HMr := Lib.hid (HM'.out.kept hg)
          have HA2r := Lib.hid (heap_keep HA2'.out hg (by simp))
          have HVr := Lib.hid (HV'.out.kept hg)
          have HAr : Hid (∃ v, wr.heap[Z]? = some (.cells #[.int .i64 (((0, []) : CondD)).1, v] 28 (0, 0)) ∧ TermsAt wr v (((0, []) : CondD)).2) := by
            obtain ⟨u, u1, u2⟩ := HA'.out
            exact ⟨u, heap_keep u1 hg (by simp), u2.kept hg⟩
          clear hg HM' HA' HA2' HV'
          by_cases h6 : formErr G.1 G.2 = 0
          case pos =>
            have HR3a : Hid (R3.1 = G) := by show _ = _; rw [HSu3.out]; unfold okForm; rw [if_neg (by simp [h6])]
            have HR3b : Hid (R3.2 = 0) := by show _ = _; rw [HSu3.out]; unfold okForm; rw [if_neg (by simp [h6])]
            rw [h6]
            clear h6
            go_upto_region 25 with fail
            generalize hwt : wr = wt at *
            have HMt := Lib.hid HMr.out
            have HAt := Lib.hid HAr.out
            have HPt : Hid (∃ v, wt.heap[Z + 1]? = some (.cells #[.int .i64 G.1, v] 28 (0, 0)) ∧ TermsAt wt v G.2) := ⟨_, HA2r.out, HVr.out⟩
            clear HMr HAr HA2r HVr hwt
            obtain ⟨s0, s1, sf⟩ := cell_of_two HMt.out.s
            obtain ⟨p0, p1', pf⟩ := cell_of_two HMt.out.p
            obtain ⟨va, ha1, ha2⟩ := HAt.out
            obtain ⟨vp', hp1, hp2⟩ := HPt.out
            obtain ⟨pa, ca, rfl, -⟩ := id ha2
            obtain ⟨pp, cp, rfl, -⟩ := id hp2
            obtain ⟨z0, z1, zf⟩ := cell_of_two ha1
            obtain ⟨y0, y1, yf⟩ := cell_of_two hp1
            have b1 : (R1.2 == E1) = true := by simp [HRb.out]
            have b2 : (R1.1 == 0) = true := by simp [HRa.out]
            have b3 : (R2.2 == E9) = true := by simp [HR2b.out]
            have b4 : (R3.2 == 0) = true := by simp [HR3b.out]
            have HA2t := Lib.hid ha2
            have HP2t := Lib.hid hp2
            have HP1t := Lib.hid hp1
            have e1 : eqForm R2.1 ((0, []) : CondD) = true := by rw [HR2a.out]; simp [eqForm]
            have e2 : eqForm R3.1 G = true := by rw [HR3a.out]; simp [eqForm]
            have HE1 := Lib.hid e1
            have HE2 := Lib.hid e2
            clear ha1 ha2 hp1 hp2 e1 e2 HR2a HR2b HR3a HR3b HRa HRb
            go_wp2_with fail
            refine (sameForm_any R2.1 ((0, []) : CondD) _ _ _ HMt.out.ts HA2t.out).mono ?_
            rintro e wu ⟨rfl, hg⟩
            rw [HE1.out]
            clear s0 s1 sf p0 p1' pf z0 z1 zf y0 y1 yf
            have HMu := Lib.hid (HMt.out.kept hg)
            have HP2u := Lib.hid (HP2t.out.kept hg)
            obtain ⟨p0, p1', pf⟩ := cell_of_two HMu.out.p
            obtain ⟨y0, y1, yf⟩ := cell_of_two (heap_keep HP1t.out hg (by simp))
            clear hg
            go_wp2_with fail
            refine (sameForm_any R3.1 G _ _ _ HMu.out.tq HP2u.out).mono ?_
            rintro e wv ⟨rfl, hg⟩
            rw [HE2.out]
            clear p0 p1' pf y0 y1 yf
            have HGv := Lib.hid (grownBy_trans HMu.out.g hg)
            clear hg
            go_wp2_with fail
            refine (nested_any _).mono ?_
            rintro e wx ⟨rfl, hg⟩
            have HGx := Lib.hid (grownBy_trans HGv.out hg)
            clear hg
            go_wp2
            go_ret
            exact ⟨rfl, HGx.out⟩
          case neg =>
            have HR3a : Hid (R3.1 = (0, [])) := by show _ = _; rw [HSu3.out]; unfold okForm; rw [if_pos h6]
            have HR3b : Hid (R3.2 = formErr G.1 G.2) := by show _ = _; rw [HSu3.out]; unfold okForm; rw [if_pos h6]
            have h6b : (formErr G.1 G.2 != 0) = true := by simpa using h6
            clear h6
            generalize formErr G.1 G.2 = E8 at *
            obtain ⟨z0, z1, zf⟩ := cell_of_two HA2r.out
            go_upto_region 25 with fail
            obtain ⟨f1, f2⟩ := two_set HA2r.out (.int .i64 0) (.slice none 0 0)
            have HMt := Lib.hid (HMr.out.set HA2r.out (grownBy_refl _ _) f2 (by have := HLt.out; omega) (by have := HLt.out; omega) (by have := HLt.out; omega) (by have := HLt.out; omega) (by have := HLt.out; omega))
            have HAf := Lib.hid f1
            have HA' : Hid (∃ v, ((wr.setCell ⟨Z + 1, 0, none⟩ (.int .i64 0)).setCell ⟨Z + 1, 1, none⟩ (.slice none 0 0)).heap[Z]? = some (.cells #[.int .i64 (((0, []) : CondD)).1, v] 28 (0, 0)) ∧ TermsAt ((wr.setCell ⟨Z + 1, 0, none⟩ (.int .i64 0)).setCell ⟨Z + 1, 1, none⟩ (.slice none 0 0)) v (((0, []) : CondD)).2) := by
              obtain ⟨u, u1, u2⟩ := HAr.out
              exact ⟨u, heap_keep u1 f2 (by simp), u2.later_set HA2r.out (grownBy_refl _ _) f2⟩
            clear z0 z1 zf f1 f2 HMr HAr HA2r HVr
            generalize (wr.setCell ⟨Z + 1, 0, none⟩ (.int .i64 0)).setCell ⟨Z + 1, 1, none⟩ (.slice none 0 0) = wt at *
            have HAt := Lib.hid HA'.out
            have HPt : Hid (∃ v, wt.heap[Z + 1]? = some (.cells #[.int .i64 ((0, []) : CondD).1, v] 28 (0, 0)) ∧ TermsAt wt v ((0, []) : CondD).2) := ⟨_, HAf.out, terms_nil _ _ _⟩
            clear HAf HA'
            obtain ⟨s0, s1, sf⟩ := cell_of_two HMt.out.s
            obtain ⟨p0, p1', pf⟩ := cell_of_two HMt.out.p
            obtain ⟨va, ha1, ha2⟩ := HAt.out
            obtain ⟨vp', hp1, hp2⟩ := HPt.out
            obtain ⟨pa, ca, rfl, -⟩ := id ha2
            obtain ⟨pp, cp, rfl, -⟩ := id hp2
            obtain ⟨z0, z1, zf⟩ := cell_of_two ha1
            obtain ⟨y0, y1, yf⟩ := cell_of_two hp1
            have b1 : (R1.2 == E1) = true := by simp [HRb.out]
            have b2 : (R1.1 == 0) = true := by simp [HRa.out]
            have b3 : (R2.2 == E9) = true := by simp [HR2b.out]
            have b4 : (R3.2 == E8) = true := by simp [HR3b.out]
            have HA2t := Lib.hid ha2
            have HP2t := Lib.hid hp2
            have HP1t := Lib.hid hp1
            have e1 : eqForm R2.1 ((0, []) : CondD) = true := by rw [HR2a.out]; simp [eqForm]
            have e2 : eqForm R3.1 ((0, []) : CondD) = true := by rw [HR3a.out]; simp [eqForm]
            have HE1 := Lib.hid e1
            have HE2 := Lib.hid e2
            clear ha1 ha2 hp1 hp2 e1 e2 HR2a HR2b HR3a HR3b HRa HRb
            go_wp2_with fail
            refine (sameForm_any R2.1 ((0, []) : CondD) _ _ _ HMt.out.ts HA2t.out).mono ?_
            rintro e wu ⟨rfl, hg⟩
            rw [HE1.out]
            clear s0 s1 sf p0 p1' pf z0 z1 zf y0 y1 yf
            have HMu := Lib.hid (HMt.out.kept hg)
            have HP2u := Lib.hid (HP2t.out.kept hg)
            obtain ⟨p0, p1', pf⟩ := cell_of_two HMu.out.p
            obtain ⟨y0, y1, yf⟩ := cell_of_two (heap_keep HP1t.out hg (by simp))
            clear hg
            go_wp2_with fail
            refine (sameForm_any R3.1 ((0, []) : CondD) _ _ _ HMu.out.tq HP2u.out).mono ?_
            rintro e wv ⟨rfl, hg⟩
            rw [HE2.out]
            clear p0 p1' pf y0 y1 yf
            have HGv := Lib.hid (grownBy_trans HMu.out.g hg)
            clear hg
            go_wp2_with fail
            refine (nested_any _).mono ?_
            rintro e wx ⟨rfl, hg⟩
            have HGx := Lib.hid (grownBy_trans HGv.out hg)
            clear hg
            go_wp2
            go_ret
            exact ⟨rfl, HGx.out⟩
end Go.Proofs.YtblpknkgjkbacaaGreatDoor
