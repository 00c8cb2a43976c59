/-
 Range, Implies: their visits.
 Range: its visits.
-/
import Derived.Test.YtfilcaolgfghcaaGreatEachR
import Derived.Test.YtfilcaolgfghcaaGreatEachI
import Derived.Test.YtfilcaolgfghcaaGreatRangeIn
import Derived.Test.YtfilcaolgfghcaaGreatSpaceRow
import Derived.Test.YtfilcaolgfghcaaGreatEachC
import Derived.Test.YtfilcaolgfghcaaGreatHas
namespace Go.Proofs.YtfilcaolgfghcaaGreat
open Go.RowKit
attribute [local go_sem ↓] Go.wp_at_zero Go.wp_at_succ

/-- A row of numbers in a block of its own. -/
def RowBox (w : World) (A Cb : Nat) (c : Int) (cs : List Int) : Prop :=
  w.heap[A]? = some (.cells #[.int .i64 c, .slice (some ⟨Cb, 0, none⟩) cs.length cs.length] 79 (0, 0)) ∧ w.heap[Cb]? = some (.cells (cs.map (Value.int .i64)).toArray 3 (0, 0))

theorem RowBox.keep {w w' : World} {A Cb : Nat} {c : Int} {cs : List Int} {r : Option Nat} (h : RowBox w A Cb c cs) (hg : w.grownBy w' r) (h1 : r ≠ some A) (h2 : r ≠ some Cb) : RowBox w' A Cb c cs := ⟨heap_keep h.1 hg h1, heap_keep h.2 hg h2⟩
theorem RowBox.ints {w : World} {A Cb : Nat} {c : Int} {cs : List Int} (h : RowBox w A Cb c cs) (hl : cs.length ≤ 1000) (hb : ∀ x ∈ cs, -1000 ≤ x ∧ x ≤ 1000) : IntsAt w (.slice (some ⟨Cb, 0, none⟩) cs.length cs.length) cs := by
  refine ⟨_, cs.length, rfl, by omega, fun j x hj => ⟨Cb, 0, rfl, by have := hb x (List.mem_of_getElem? hj); omega, ?_⟩⟩
  have hj2 := (List.getElem?_eq_some_iff.1 hj)
  obtain ⟨hj1, rfl⟩ := hj2
  simp [World.cell?, h.2, hj1]

/-- Implies: what its visits leave. -/
def ImpInv (V Cb : Nat) (c : Int) (cs : List Int) (_ : Nat) (_ : List (List Int)) (w : World) : Prop := RowBox w V Cb c cs
def goImp (r : RowD) (d : List (List Int)) : Bool := match d.getLast? with
  | some pt => decide (0 ≤ rowVal r pt)
  | none => true
theorem goImp_snoc (r : RowD) (d : List (List Int)) (pt : List Int) : goImp r (d ++ [pt]) = decide (0 ≤ rowVal r pt) := by simp [goImp]

theorem imp_steady {V Cb Bb B : Nat} {c : Int} {cs : List Int} (h : V < Bb) (h2 : Cb < Bb) : Steady Bb (ImpInv V Cb c cs B) := fun d w w' hi hg => RowBox.keep hi hg (by simp; omega) (by simp; omega)

set_option maxHeartbeats 1000000 in
theorem imp_visit {wE : World} {V Cb Bb n : Nat} {c : Int} {cs : List Int} (hr : goodRow n (c, cs)) (hn : n ≤ 1000) : VisitOkI wE V (V + 1) Bb n (ImpInv V Cb c cs Bb) (goImp (c, cs)) := by
  intro d pt w h hb hd
  have hi : RowBox w V Cb c cs := h.inv
  have hx := h.ints hn n n (Nat.le_refl _) (by rw [List.take_of_length_le (by rw [h.len]; exact Nat.le_refl _)]; exact hb)
  rw [List.take_of_length_le (by rw [h.len]; exact Nat.le_refl _)] at hx
  have hcl : cs.length = n := hr.1
  have HI := Lib.hid (hi.ints (by omega) hr.2.2)
  have HX := Lib.hid hx
  have HR := Lib.hid hr
  have HB := Lib.hid hb
  have HS := Lib.hid h
  have HL := Lib.hid (show pt.length ≤ n by rw [h.len]; exact Nat.le_refl _)
  have v0 : w.cell? ⟨V, 0, none⟩ = some (.int .i64 c) := by unfold World.cell?; rw [hi.1]; rfl
  have v1 : w.cell? ⟨V, 1, none⟩ = some (.slice (some ⟨Cb, 0, none⟩) cs.length cs.length) := by unfold World.cell?; rw [hi.1]; rfl
  have HG := Lib.hid (goImp_snoc (c, cs) d pt)
  clear h hb hd hi hx hr hcl
  go_enter Tryz.func39, Tryz.ntmps39
  go_wp2_with (first | (go_at_call 38; go_must (refine (rowValue_any n (c, cs) _ _ pt _ HR.out hn HI.out HX.out HL.out HB.out).mono ?_; rintro e w1 ⟨rfl, hg1⟩; have G1 := Lib.hid hg1; clear hg1)))
  go_ret
  exact ⟨ret_bool (by rw [HG.out]), HS.out.framed.grown G1.out, HS.out.lo, HS.out.hi, heap_keep HS.out.buf G1.out (by simp), HS.out.len, RowBox.keep HS.out.inv G1.out (by simp) (by simp)⟩

end Go.Proofs.YtfilcaolgfghcaaGreat

namespace Go.Proofs.YtfilcaolgfghcaaGreat
open Go.RowKit
attribute [local go_sem ↓] Go.wp_at_zero Go.wp_at_succ

/-- Range: what its visits leave. -/
def RangeInv (V Cb : Nat) (c : Int) (cs : List Int) (_ : Nat) (d : List (List Int)) (w : World) : Prop :=
  RowBox w V Cb c cs ∧ w.heap[V + 1]? = some (.cells #[.int .i64 (rangeOf (d.map (rowVal (c, cs)))).1] 3 (0, 0)) ∧ w.heap[V + 2]? = some (.cells #[.int .i64 (rangeOf (d.map (rowVal (c, cs)))).2.1] 3 (0, 0)) ∧
    w.heap[V + 3]? = some (.cells #[.bool (rangeOf (d.map (rowVal (c, cs)))).2.2] 4 (0, 0))

theorem range_steady {V Cb Bb B : Nat} {c : Int} {cs : List Int} (h : V + 3 < Bb) (h2 : Cb < Bb) : Steady Bb (RangeInv V Cb c cs B) := fun d w w' hi hg =>
  ⟨RowBox.keep hi.1 hg (by simp; omega) (by simp; omega), heap_keep hi.2.1 hg (by simp; omega), heap_keep hi.2.2.1 hg (by simp; omega), heap_keep hi.2.2.2 hg (by simp; omega)⟩

theorem one_set {w : World} {g : Nat} {a : Value} {T : TypeId} (h : w.heap[g]? = some (.cells #[a] T (0, 0))) (v : Value) : (w.setCell ⟨g, 0, none⟩ v).heap[g]? = some (.cells #[v] T (0, 0)) := by
  show (w.heap.modify g _)[g]? = _
  rw [Array.getElem?_modify, if_pos rfl, h]
  simp
theorem one_cell {w : World} {g : Nat} {a : Value} {T : TypeId} (h : w.heap[g]? = some (.cells #[a] T (0, 0))) : w.cell? ⟨g, 0, none⟩ = some a ∧ w.frozen? ⟨g, 0, none⟩ = false :=
  ⟨by unfold World.cell?; rw [h]; rfl, by simp [World.frozen?, h]⟩

/-- The three variables are written. -/
theorem RangeInv.set {w : World} {V Cb B : Nat} {c : Int} {cs : List Int} {d : List (List Int)} {pt : List Int} {r : Int × Int × Bool} (h : RangeInv V Cb c cs B d w) (hc : Cb < V) (hr : rangeOf ((d ++ [pt]).map (rowVal (c, cs))) = r) :
    RangeInv V Cb c cs B (d ++ [pt]) (((w.setCell ⟨V + 1, 0, none⟩ (.int .i64 r.1)).setCell ⟨V + 2, 0, none⟩ (.int .i64 r.2.1)).setCell ⟨V + 3, 0, none⟩ (.bool r.2.2)) := by
  subst hr
  have g1 := grown_set w (V + 1) 0 (.int .i64 (rangeOf ((d ++ [pt]).map (rowVal (c, cs)))).1)
  have s1 := one_set h.2.1 (.int .i64 (rangeOf ((d ++ [pt]).map (rowVal (c, cs)))).1)
  have k2 := heap_keep h.2.2.1 g1 (by simp)
  have k3 := heap_keep h.2.2.2 g1 (by simp)
  have kb := RowBox.keep h.1 g1 (by simp) (by simp; omega)
  generalize w.setCell ⟨V + 1, 0, none⟩ _ = w1 at *
  have g2 := grown_set w1 (V + 2) 0 (.int .i64 (rangeOf ((d ++ [pt]).map (rowVal (c, cs)))).2.1)
  have s2 := one_set k2 (.int .i64 (rangeOf ((d ++ [pt]).map (rowVal (c, cs)))).2.1)
  have m1 := heap_keep s1 g2 (by simp)
  have m3 := heap_keep k3 g2 (by simp)
  have mb := RowBox.keep kb g2 (by simp) (by simp; omega)
  generalize w1.setCell ⟨V + 2, 0, none⟩ _ = w2 at *
  have g3 := grown_set w2 (V + 3) 0 (.bool (rangeOf ((d ++ [pt]).map (rowVal (c, cs)))).2.2)
  exact ⟨RowBox.keep mb g3 (by simp) (by simp; omega), heap_keep m1 g3 (by simp), heap_keep s2 g3 (by simp), one_set m3 _⟩
theorem RangeInv.set2 {w : World} {V Cb B : Nat} {c : Int} {cs : List Int} {d d2 : List (List Int)} {a b : Int} (h : RangeInv V Cb c cs B d w) (hc : Cb < V) (hr : rangeOf (d2.map (rowVal (c, cs))) = (a, b, true)) (ht : (rangeOf (d.map (rowVal (c, cs)))).2.2 = true) :
    RangeInv V Cb c cs B d2 ((w.setCell ⟨V + 1, 0, none⟩ (.int .i64 a)).setCell ⟨V + 2, 0, none⟩ (.int .i64 b)) := by
  have g1 := grown_set w (V + 1) 0 (.int .i64 a)
  have s1 := one_set h.2.1 (.int .i64 a)
  have k2 := heap_keep h.2.2.1 g1 (by simp)
  have k3 := heap_keep h.2.2.2 g1 (by simp)
  have kb := RowBox.keep h.1 g1 (by simp) (by simp; omega)
  generalize w.setCell ⟨V + 1, 0, none⟩ _ = w1 at *
  have g2 := grown_set w1 (V + 2) 0 (.int .i64 b)
  have s2 := one_set k2 (.int .i64 b)
  unfold RangeInv
  rw [hr]
  rw [ht] at k3
  exact ⟨RowBox.keep kb g2 (by simp) (by simp; omega), heap_keep s1 g2 (by simp), s2, heap_keep k3 g2 (by simp)⟩

set_option maxRecDepth 100000 in
set_option maxHeartbeats 2000000 in
theorem range_visit {wE : World} {V Cb Bb n : Nat} {c : Int} {cs : List Int} (hr : goodRow n (c, cs)) (hn : n ≤ 1000) (hV : V + 3 < wE.heap.size) (hc : Cb < V) : VisitOkR wE V (V + 4) Bb n (RangeInv V Cb c cs Bb) goOn := by
  intro d pt w h hb hd
  have hi : RangeInv V Cb c cs Bb d w := h.inv
  have hx := h.ints hn n n (Nat.le_refl _) (by rw [List.take_of_length_le (by rw [h.len]; exact Nat.le_refl _)]; exact hb)
  rw [List.take_of_length_le (by rw [h.len]; exact Nat.le_refl _)] at hx
  have hcl : cs.length = n := hr.1
  have HI := Lib.hid (hi.1.ints (by omega) hr.2.2)
  have HX := Lib.hid hx
  have HR := Lib.hid hr
  have HB := Lib.hid hb
  have HS := Lib.hid h
  have HL := Lib.hid (show pt.length ≤ n by rw [h.len]; exact Nat.le_refl _)
  have v0 : w.cell? ⟨V, 0, none⟩ = some (.int .i64 c) := by unfold World.cell?; rw [hi.1.1]; rfl
  have v1 : w.cell? ⟨V, 1, none⟩ = some (.slice (some ⟨Cb, 0, none⟩) cs.length cs.length) := by unfold World.cell?; rw [hi.1.1]; rfl
  have HSn := Lib.hid (show rangeOf ((d ++ [pt]).map (rowVal (c, cs))) = rangeStep (rangeOf (d.map (rowVal (c, cs)))) (rowVal (c, cs) pt) by rw [List.map_append]; exact rangeOf_snoc _ _)
  obtain ⟨a, b, f, hra⟩ : ∃ a b f, rangeOf (d.map (rowVal (c, cs))) = (a, b, f) := ⟨_, _, _, rfl⟩
  have HRa := Lib.hid hra
  have HV := Lib.hid hi
  clear h hb hd hi hx hr hcl hra
  go_enter Tryz.func37, Tryz.ntmps37
  obtain ⟨v, hv⟩ : ∃ v, rowVal (c, cs) pt = v := ⟨_, rfl⟩
  have HVv := Lib.hid hv
  clear hv
  cases f
  · go_wp2_with (first | (go_at_call 38; go_must (refine (rowValue_any n (c, cs) _ _ pt _ HR.out hn HI.out HX.out HL.out HB.out).mono ?_; rintro e w1 ⟨rfl, hg1⟩; have G1 := Lib.hid hg1; have hj : RangeInv V Cb c cs Bb d w1 := ⟨RowBox.keep HV.out.1 hg1 (by simp) (by simp), heap_keep HV.out.2.1 hg1 (by simp), heap_keep HV.out.2.2.1 hg1 (by simp), heap_keep HV.out.2.2.2 hg1 (by simp)⟩; have HJ := Lib.hid hj; have l0 := (one_cell hj.2.1).1; have l1 := (one_cell hj.2.1).2; have m0 := (one_cell hj.2.2.1).1; have m1 := (one_cell hj.2.2.1).2; have f0 := (one_cell hj.2.2.2).1; have f1 := (one_cell hj.2.2.2).2; rw [HRa.out] at l0 m0 f0; rw [HVv.out]; clear hg1 hj)))
    have HJ2 := Lib.hid (RangeInv.set (pt := pt) (r := (v, v, true)) HJ.out hc (by rw [HSn.out, HRa.out, HVv.out]; rfl))
    have HF2 := Lib.hid (((HS.out.framed.grown G1.out).more (grown_set w1 (V + 1) 0 (.int .i64 v)) (fun k hk => by cases hk; exact .inr ⟨by omega, by omega⟩)).more (grown_set _ (V + 2) 0 (.int .i64 v)) (fun k hk => by cases hk; exact .inr ⟨by omega, by omega⟩))
    have HF3 := Lib.hid (HF2.out.more (grown_set _ (V + 3) 0 (.bool true)) (fun k hk => by cases hk; exact .inr ⟨by omega, by omega⟩))
    have HB3 := Lib.hid (heap_keep (heap_keep (heap_keep (heap_keep HS.out.buf G1.out (by simp)) (grown_set w1 (V + 1) 0 (.int .i64 v)) (by have := HS.out.lo; simp; omega)) (grown_set _ (V + 2) 0 (.int .i64 v)) (by have := HS.out.lo; simp; omega)) (grown_set _ (V + 3) 0 (.bool true)) (by have := HS.out.lo; simp; omega))
    obtain ⟨w2, hw2⟩ : ∃ w2, w2 = ((w1.setCell ⟨V + 1, 0, none⟩ (.int .i64 v)).setCell ⟨V + 2, 0, none⟩ (.int .i64 v)).setCell ⟨V + 3, 0, none⟩ (.bool true) := ⟨_, rfl⟩
    rw [← hw2] at HJ2 HF3 HB3
    change Code.wp _ _ _ _ (((w1.setCell ⟨V + 1, 0, none⟩ (.int .i64 v)).setCell ⟨V + 2, 0, none⟩ (.int .i64 v)).setCell ⟨V + 3, 0, none⟩ (.bool true))
    rw [← hw2]
    clear l0 l1 m0 m1 f0 f1 HF2 hw2
    have l0 := (one_cell HJ2.out.2.1).1
    have l1 := (one_cell HJ2.out.2.1).2
    have m0 := (one_cell HJ2.out.2.2.1).1
    have m1 := (one_cell HJ2.out.2.2.1).2
    have HR2 := Lib.hid (show rangeOf ((d ++ [pt]).map (rowVal (c, cs))) = (v, v, true) by rw [HSn.out, HRa.out, HVv.out]; rfl)
    rw [HR2.out] at l0 m0
    go_region
    all_goals go_wp2
    all_goals go_ret
    all_goals
      have hlo := HS.out.lo
      refine ⟨rfl, ((HF3.out.grown (grown_d _ _)).more (grown_set _ (V + 1) 0 (.int .i64 v)) (fun k hk => by cases hk; exact .inr ⟨by omega, by omega⟩)).more (grown_set _ (V + 2) 0 (.int .i64 v)) (fun k hk => by cases hk; exact .inr ⟨by omega, by omega⟩), HS.out.lo, HS.out.hi, heap_keep (heap_keep (heap_keep HB3.out (grown_d w2 none) (by simp)) (grown_set _ (V + 1) 0 (.int .i64 v)) (by simp; omega)) (grown_set _ (V + 2) 0 (.int .i64 v)) (by simp; omega), HS.out.len, ?_⟩
      have H := RangeInv.set2 (d2 := d ++ [pt]) HJ2.out hc HR2.out (by rw [HR2.out])
      exact H
  · go_wp2_with (first | (go_at_call 38; go_must (refine (rowValue_any n (c, cs) _ _ pt _ HR.out hn HI.out HX.out HL.out HB.out).mono ?_; rintro e w1 ⟨rfl, hg1⟩; have G1 := Lib.hid hg1; have hj : RangeInv V Cb c cs Bb d w1 := ⟨RowBox.keep HV.out.1 hg1 (by simp) (by simp), heap_keep HV.out.2.1 hg1 (by simp), heap_keep HV.out.2.2.1 hg1 (by simp), heap_keep HV.out.2.2.2 hg1 (by simp)⟩; have HJ := Lib.hid hj; have l0 := (one_cell hj.2.1).1; have l1 := (one_cell hj.2.1).2; have m0 := (one_cell hj.2.2.1).1; have m1 := (one_cell hj.2.2.1).2; have f0 := (one_cell hj.2.2.2).1; have f1 := (one_cell hj.2.2.2).2; rw [HRa.out] at l0 m0 f0; rw [HVv.out]; clear hg1 hj)))
    go_region
    all_goals go_wp2
    all_goals go_ret
    · have hlo := HS.out.lo
      (have H := RangeInv.set2 (a := v) (b := v) (d2 := d ++ [pt]) HJ.out hc (by rw [HSn.out, HRa.out, HVv.out]; show (min a v, max b v, true) = _; rw [show min a v = v by omega, show max b v = v by omega]) (by rw [HRa.out]); exact ⟨rfl, (((HS.out.framed.grown G1.out).grown (grown_d w1 none)).more (grown_set _ (V + 1) 0 (.int .i64 v)) (fun k hk => by cases hk; exact .inr ⟨by omega, by omega⟩)).more (grown_set _ (V + 2) 0 (.int .i64 v)) (fun k hk => by cases hk; exact .inr ⟨by omega, by omega⟩), HS.out.lo, HS.out.hi, heap_keep (heap_keep (heap_keep (heap_keep HS.out.buf G1.out (by simp)) (grown_d w1 none) (by simp)) (grown_set _ (V + 1) 0 (.int .i64 v)) (by simp; omega)) (grown_set _ (V + 2) 0 (.int .i64 v)) (by simp; omega), HS.out.len, H⟩)
    · have hlo := HS.out.lo
      (have H := RangeInv.set2 (a := v) (b := b) (d2 := d ++ [pt]) HJ.out hc (by rw [HSn.out, HRa.out, HVv.out]; show (min a v, max b v, true) = _; rw [show min a v = v by omega, show max b v = b by omega]) (by rw [HRa.out]); exact ⟨rfl, (((HS.out.framed.grown G1.out).grown (grown_d w1 none)).more (grown_set _ (V + 1) 0 (.int .i64 v)) (fun k hk => by cases hk; exact .inr ⟨by omega, by omega⟩)).more (grown_set _ (V + 2) 0 (.int .i64 b)) (fun k hk => by cases hk; exact .inr ⟨by omega, by omega⟩), HS.out.lo, HS.out.hi, heap_keep (heap_keep (heap_keep (heap_keep HS.out.buf G1.out (by simp)) (grown_d w1 none) (by simp)) (grown_set _ (V + 1) 0 (.int .i64 v)) (by simp; omega)) (grown_set _ (V + 2) 0 (.int .i64 b)) (by simp; omega), HS.out.len, H⟩)
    · have hlo := HS.out.lo
      (have H := RangeInv.set2 (a := a) (b := v) (d2 := d ++ [pt]) HJ.out hc (by rw [HSn.out, HRa.out, HVv.out]; show (min a v, max b v, true) = _; rw [show min a v = a by omega, show max b v = v by omega]) (by rw [HRa.out]); exact ⟨rfl, (((HS.out.framed.grown G1.out).grown (grown_d w1 none)).more (grown_set _ (V + 1) 0 (.int .i64 a)) (fun k hk => by cases hk; exact .inr ⟨by omega, by omega⟩)).more (grown_set _ (V + 2) 0 (.int .i64 v)) (fun k hk => by cases hk; exact .inr ⟨by omega, by omega⟩), HS.out.lo, HS.out.hi, heap_keep (heap_keep (heap_keep (heap_keep HS.out.buf G1.out (by simp)) (grown_d w1 none) (by simp)) (grown_set _ (V + 1) 0 (.int .i64 a)) (by simp; omega)) (grown_set _ (V + 2) 0 (.int .i64 v)) (by simp; omega), HS.out.len, H⟩)
    · have hlo := HS.out.lo
      (have H := RangeInv.set2 (a := a) (b := b) (d2 := d ++ [pt]) HJ.out hc (by rw [HSn.out, HRa.out, HVv.out]; show (min a v, max b v, true) = _; rw [show min a v = a by omega, show max b v = b by omega]) (by rw [HRa.out]); exact ⟨rfl, (((HS.out.framed.grown G1.out).grown (grown_d w1 none)).more (grown_set _ (V + 1) 0 (.int .i64 a)) (fun k hk => by cases hk; exact .inr ⟨by omega, by omega⟩)).more (grown_set _ (V + 2) 0 (.int .i64 b)) (fun k hk => by cases hk; exact .inr ⟨by omega, by omega⟩), HS.out.lo, HS.out.hi, heap_keep (heap_keep (heap_keep (heap_keep HS.out.buf G1.out (by simp)) (grown_d w1 none) (by simp)) (grown_set _ (V + 1) 0 (.int .i64 a)) (by simp; omega)) (grown_set _ (V + 2) 0 (.int .i64 b)) (by simp; omega), HS.out.len, H⟩)

end Go.Proofs.YtfilcaolgfghcaaGreat
