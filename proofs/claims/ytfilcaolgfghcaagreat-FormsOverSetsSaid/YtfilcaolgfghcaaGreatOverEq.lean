/-
 Implies.
 Range.
 Range and Implies by the form's own values.
-/
import Derived.Test.YtfilcaolgfghcaaGreatVisitS
import Derived.BigQuiet
namespace Go.Proofs.YtfilcaolgfghcaaGreat
open Go.RowKit

/-- What a form over a set is answered with. -/
def overErr (S : List SideD × List CondD) (f : CondD) : Int := if setErr S = 0 then aroundErr (namesOf S.1) f else setErr S
def rowD (S : List SideD × List CondD) (f : CondD) : RowD := (f.1, coefsOf S.1 f.2)
/-- What Implies gives. -/
def impliesOf (S : List SideD × List CondD) (f : CondD) : Bool := if overErr S f = 0 then (pointsFrom S [] S.1).all (fun x => decide (0 ≤ rowVal (rowD S f) x)) else false

theorem walkP_imp (r : RowD) : ∀ ps d, (walkP (goImp r) d ps).2 = ps.all (fun x => decide (0 ≤ rowVal r x))
  | [], d => rfl
  | p :: ps, d => by
    simp only [walkP, List.all_cons]
    rw [goImp_snoc]
    by_cases h : 0 ≤ rowVal r p
    · simp [h, walkP_imp r ps]
    · simp [h]

theorem over_good {S : List SideD × List CondD} {f : CondD} (h : overErr S f = 0) : setErr S = 0 ∧ aroundErr (namesOf S.1) f = 0 := by
  unfold overErr at h
  by_cases h1 : setErr S = 0
  · rw [if_pos h1] at h; exact ⟨h1, h⟩
  · rw [if_neg h1] at h; exact absurd h h1
theorem over_bad {S : List SideD × List CondD} {f : CondD} {sv : Value} {w w' : World} {e : Ending} (hp : SpaceRowPost S f sv w e w') (h : overErr S f ≠ 0) : e = .returned (.tuple #[.agg #[.slice none 0 0, .slice none 0 0], .agg #[.int .i64 0, .slice none 0 0], .int .i64 (overErr S f)]) := by
  obtain ⟨_, h2, h3, _⟩ := hp
  unfold overErr at *
  by_cases h1 : setErr S = 0
  · rw [if_pos h1] at *; exact h3 h1 h
  · rw [if_neg h1] at *; exact h2 h1

set_option maxHeartbeats 2000000 in
theorem implies_any (S : List SideD × List CondD) (c : Int) (ts : List (ByteArray × Int)) (sv cv tv : Value) (w : World) (hS : SetAt w sv cv S) (ht : TermsAt w tv ts) :
    Calls Tryz.prog 12 #[.agg #[sv, cv], .agg #[.int .i64 c, tv]] w (Gives (.tuple #[.bool (impliesOf S (c, ts)), .int .i64 (overErr S (c, ts))]) w) := by
  obtain ⟨⟨p, cap, rfl, ⟨hsl, hscc⟩, hsc⟩, ⟨pc, ccap, rfl, hcl, hcc⟩⟩ := id hS
  obtain ⟨pt, tcap, rfl, htl, _⟩ := id ht
  have HS := Lib.hid hS
  have HT := Lib.hid ht
  have HB := Lib.hid (grownBy_trans (World.grownBy_alloc w (.cells #[.slice p S.1.length cap, .slice pc S.2.length ccap] 29) none) (World.grownBy_alloc _ (.cells #[.int .i64 c, .slice pt ts.length tcap] 33) none))
  clear hS ht hsc hcc
  by_cases hE : overErr S (c, ts) = 0
  · have hE0 : (overErr S (c, ts) != 0) = false := by simp [hE]
    have hn8 := (set_good (over_good hE).1).1
    have HE := Lib.hid hE
    clear hE
    go_enter Tryz.func12, Tryz.ntmps12
    go_wp2_with (first
      | (go_at_call 35; go_must (refine (spaceAndRow_any S c ts _ _ _ _ (HS.out.kept HB.out) (HT.out.kept HB.out)).mono ?_; rintro e w1 ⟨hg1, _, _, hk0⟩; obtain ⟨kv, Cb, rfl, hk1, hcb⟩ := hk0 (over_good HE.out).1 (over_good HE.out).2; clear hk0; obtain ⟨pk, kcap, rfl, hkl, hkc⟩ := id hk1; have G1 := Lib.hid hg1; have hcz : Cb < w1.heap.size := (Array.getElem?_eq_some_iff.1 hcb).1; have H := Lib.hid (eachI_any S (.slice p S.1.length cap) (.slice pk (rowsOf S).length kcap) (w1.heap.size + 1) (w1.heap.size + 1 + 1) (ImpInv (w1.heap.size + 1) Cb c (coefsOf S.1 ts)) (goImp (c, coefsOf S.1 ts)) w1 ((w1.alloc (.cells #[.slice p S.1.length cap, .slice pk (rowsOf S).length kcap] 77)).alloc (.cells #[.int .i64 c, .slice (some ⟨Cb, 0, none⟩) S.1.length S.1.length] 79)) (HS.out.1.kept (grownBy_trans HB.out hg1)) hk1 (over_good HE.out).1 (grownBy_trans (World.grownBy_alloc _ _ _) (World.grownBy_alloc _ _ _)) (by omega) (by simp) (fun _ => ⟨by rw [coefs_length]; show ((w1.heap.push _).push _)[w1.heap.size + 1]? = _; simp only [Array.getElem?_push, Array.size_push]; rw [if_pos trivial], heap_keep (heap_keep hcb (World.grownBy_alloc _ _ none) (by simp)) (World.grownBy_alloc _ _ none) (by simp)⟩) (fun Bb hB => imp_steady (by simp at hB; omega) (by simp at hB; omega)) (fun wE Bb hg hB => imp_visit (coefs_good (around_good (over_good HE.out).2).1) (by omega))); unfold fvI at H; clear hg1 hk1 hkc hcb))
      | (go_at_call 36; go_must (refine H.out.mono ?_; rintro e w2 ⟨rfl, hf, Bb, _, _⟩; rw [walkP_imp]; have HF := Lib.hid hf; clear hf)))
    go_ret2
    exact ⟨by (simp [impliesOf, HE.out, rowD]; rfl), grownBy_trans HB.out (grownBy_trans G1.out (HF.out.pre (grownBy_trans (World.grownBy_alloc _ _ _) (World.grownBy_alloc _ _ _)) (by omega)))⟩
  · have hE0 : (overErr S (c, ts) != 0) = true := by simp [hE]
    have HE := Lib.hid hE
    clear hE
    go_enter Tryz.func12, Tryz.ntmps12
    go_wp2_with (first
      | (go_at_call 35; go_must (refine (spaceAndRow_any S c ts _ _ _ _ (HS.out.kept HB.out) (HT.out.kept HB.out)).mono ?_; rintro e w1 hp; have hg1 := hp.1; obtain rfl := over_bad hp HE.out; have G1 := Lib.hid hg1; clear hg1 hp)))
    go_ret2
    exact ⟨by simp [impliesOf, HE.out], grownBy_trans HB.out (grownBy_trans G1.out (grownBy_trans (World.grownBy_alloc _ _ _) (World.grownBy_alloc _ _ _)))⟩

end Go.Proofs.YtfilcaolgfghcaaGreat

namespace Go.Proofs.YtfilcaolgfghcaaGreat
open Go.RowKit

/-- What Range gives. -/
def rangeF (S : List SideD × List CondD) (f : CondD) : Int × Int × Bool := if overErr S f = 0 then rangeOf ((pointsFrom S [] S.1).map (rowVal (rowD S f))) else (0, 0, false)

theorem five_boxes (w : World) (a b c d e : Array Value) (ta tb tc td te : TypeId) (W : World) (h : W = ((((w.alloc (.cells a ta)).alloc (.cells b tb)).alloc (.cells c tc)).alloc (.cells d td)).alloc (.cells e te)) :
    W.heap[w.heap.size + 1]? = some (.cells b tb (0, 0)) ∧ W.heap[w.heap.size + 1 + 1]? = some (.cells c tc (0, 0)) ∧ W.heap[w.heap.size + 1 + 2]? = some (.cells d td (0, 0)) ∧ W.heap[w.heap.size + 1 + 3]? = some (.cells e te (0, 0)) ∧ w.grownBy W none ∧ W.heap.size = w.heap.size + 5 := by
  subst h
  refine ⟨?_, ?_, ?_, ?_, grownBy_trans (World.grownBy_alloc _ _ _) (grownBy_trans (World.grownBy_alloc _ _ _) (grownBy_trans (World.grownBy_alloc _ _ _) (grownBy_trans (World.grownBy_alloc _ _ _) (World.grownBy_alloc _ _ _)))), by simp⟩
  · show (((((w.heap.push _).push _).push _).push _).push _)[w.heap.size + 1]? = _
    simp only [Array.getElem?_push, Array.size_push]
    rw [if_neg (by omega), if_neg (by omega), if_neg (by omega), if_pos trivial]
  · show (((((w.heap.push _).push _).push _).push _).push _)[w.heap.size + 1 + 1]? = _
    simp only [Array.getElem?_push, Array.size_push]
    rw [if_neg (by omega), if_neg (by omega), if_pos trivial]
  · show (((((w.heap.push _).push _).push _).push _).push _)[w.heap.size + 1 + 2]? = _
    simp only [Array.getElem?_push, Array.size_push]
    rw [if_neg (by omega), if_pos trivial]
  · show (((((w.heap.push _).push _).push _).push _).push _)[w.heap.size + 1 + 3]? = _
    simp only [Array.getElem?_push, Array.size_push]
    rw [if_pos trivial]

theorem results_tmp4 {fn : Func} {t u v x : Tmp} (h : fn.results = #[.tmp t, .tmp u, .tmp v, .tmp x]) (tmps : Array Value) (P : Program) (w : World) :
    (results fn tmps).run P w = .ok (.tuple #[tmps.getD t undef, tmps.getD u undef, tmps.getD v undef, tmps.getD x undef]) w := by
  simp [results, h]

set_option maxHeartbeats 4000000 in
theorem rangeF_any (S : List SideD × List CondD) (c : Int) (ts : List (ByteArray × Int)) (sv cv tv : Value) (w : World) (hS : SetAt w sv cv S) (ht : TermsAt w tv ts) :
    Calls Tryz.prog 11 #[.agg #[sv, cv], .agg #[.int .i64 c, tv]] w (Gives (.tuple #[.int .i64 (rangeF S (c, ts)).1, .int .i64 (rangeF S (c, ts)).2.1, .bool (rangeF S (c, ts)).2.2, .int .i64 (overErr S (c, ts))]) w) := by
  obtain ⟨⟨p, cap, rfl, ⟨hsl, hscc⟩, hsc⟩, ⟨pc, ccap, rfl, hcl, hcc⟩⟩ := id hS
  obtain ⟨pt, tcap, rfl, htl, _⟩ := id ht
  have HS := Lib.hid hS
  have HT := Lib.hid ht
  have HB := Lib.hid (grownBy_trans (World.grownBy_alloc w (.cells #[.slice p S.1.length cap, .slice pc S.2.length ccap] 29) none) (World.grownBy_alloc _ (.cells #[.int .i64 c, .slice pt ts.length tcap] 33) none))
  clear hS ht hsc hcc
  by_cases hE : overErr S (c, ts) = 0
  · have hE0 : (overErr S (c, ts) != 0) = false := by simp [hE]
    have hn8 := (set_good (over_good hE).1).1
    have HE := Lib.hid hE
    clear hE
    go_enter Tryz.func11, Tryz.ntmps11
    go_wp2_with (first
      | (go_at_call 35; go_must (refine (spaceAndRow_any S c ts _ _ _ _ (HS.out.kept HB.out) (HT.out.kept HB.out)).mono ?_; rintro e w1 ⟨hg1, _, _, hk0⟩; obtain ⟨kv, Cb, rfl, hk1, hcb⟩ := hk0 (over_good HE.out).1 (over_good HE.out).2; clear hk0; obtain ⟨pk, kcap, rfl, hkl, hkc⟩ := id hk1; have G1 := Lib.hid hg1; have hcz : Cb < w1.heap.size := (Array.getElem?_eq_some_iff.1 hcb).1; obtain ⟨q0, q1, q2, q3, q4, q5⟩ := five_boxes w1 #[.slice p S.1.length cap, .slice pk (rowsOf S).length kcap] #[.int .i64 c, .slice (some ⟨Cb, 0, none⟩) S.1.length S.1.length] #[.int .i64 0] #[.int .i64 0] #[.bool false] 77 79 3 3 4 _ rfl; have Q4 := Lib.hid q4; have H := Lib.hid (eachR_any S (.slice p S.1.length cap) (.slice pk (rowsOf S).length kcap) (w1.heap.size + 1) (w1.heap.size + 1 + 4) (RangeInv (w1.heap.size + 1) Cb c (coefsOf S.1 ts)) goOn w1 _ (HS.out.1.kept (grownBy_trans HB.out hg1)) hk1 (over_good HE.out).1 q4 (by omega) (by omega) (fun _ => ⟨⟨by rw [coefs_length]; exact q0, heap_keep hcb q4 (by simp)⟩, q1, q2, q3⟩) (fun Bb hB => range_steady (by omega) (by omega)) (fun wE Bb hg hB => range_visit (coefs_good (around_good (over_good HE.out).2).1) (by omega) (by have := hg.size; omega) (by omega))); unfold fvR at H; clear hg1 hk1 hkc hcb q0 q1 q2 q3 q4 q5))
      | (go_at_call 36; go_must (refine H.out.mono ?_; rintro e w2 ⟨rfl, hf, Bb, _, _, h1, h2, h3⟩; rw [walkP_on, List.nil_append] at h1 h2 h3; have HF := Lib.hid hf; have c1 := (one_cell h1).1; have c2 := (one_cell h2).1; have c3 := (one_cell h3).1; clear hf h1 h2 h3)))
    go_quiet (fail)
    go_wp2
    (try simp only [Exit.inBlock, Exit.then])
    refine bodyPost_ret (results_tmp4 rfl _ _ _) rfl ?_
    exact ⟨by simp [rangeF, HE.out, rowD], grownBy_trans HB.out (grownBy_trans G1.out (grownBy_trans (HF.out.pre Q4.out (by omega)) (grownBy_drewN _ _ _)))⟩
  · have hE0 : (overErr S (c, ts) != 0) = true := by simp [hE]
    have HE := Lib.hid hE
    clear hE
    go_enter Tryz.func11, Tryz.ntmps11
    go_wp2_with (first
      | (go_at_call 35; go_must (refine (spaceAndRow_any S c ts _ _ _ _ (HS.out.kept HB.out) (HT.out.kept HB.out)).mono ?_; rintro e w1 hp; have hg1 := hp.1; obtain rfl := over_bad hp HE.out; have G1 := Lib.hid hg1; clear hg1 hp)))
    (try simp only [Exit.inBlock, Exit.then])
    refine bodyPost_ret (results_tmp4 rfl _ _ _) rfl ?_
    exact ⟨by simp [rangeF, HE.out], grownBy_trans HB.out (grownBy_trans G1.out (grownBy_trans (World.grownBy_alloc _ _ _) (World.grownBy_alloc _ _ _)))⟩

end Go.Proofs.YtfilcaolgfghcaaGreat

namespace Go.Proofs.YtfilcaolgfghcaaGreat
open Go.RowKit

theorem rowD_val {S : List SideD × List CondD} {f : CondD} (h : overErr S f = 0) : ∀ x ∈ pointsFrom S [] S.1, rowVal (rowD S f) x = valF S.1 f x := by
  obtain ⟨h1, h2⟩ := over_good h
  obtain ⟨h3, h4⟩ := around_good h2
  have hp := points_good S S.1 [] (fun s hs => (sides_good [] (set_good h1).2.1 s hs).2) (fun x hx => by cases hx)
  intro x hx
  exact rowVal_eq (by have := (hp x hx).1; simpa using this) h3 h4
theorem rangeF_eq {S : List SideD × List CondD} {f : CondD} (h : overErr S f = 0) : rangeF S f = rangeOf ((pointsFrom S [] S.1).map (valF S.1 f)) := by
  unfold rangeF
  rw [if_pos h, List.map_congr_left (rowD_val h)]
theorem impliesOf_eq {S : List SideD × List CondD} {f : CondD} (h : overErr S f = 0) : impliesOf S f = (pointsFrom S [] S.1).all (fun x => decide (0 ≤ valF S.1 f x)) := by
  unfold impliesOf
  rw [if_pos h]
  rw [Bool.eq_iff_iff, List.all_eq_true, List.all_eq_true]
  exact ⟨fun g x hx => by rw [← rowD_val h x hx]; exact g x hx, fun g x hx => by rw [rowD_val h x hx]; exact g x hx⟩

end Go.Proofs.YtfilcaolgfghcaaGreat
