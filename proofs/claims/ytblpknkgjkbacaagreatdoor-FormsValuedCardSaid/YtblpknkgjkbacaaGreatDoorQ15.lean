/-
 The expression of the text is read: a cell plus a number.
-/
import Derived.Test.YtblpknkgjkbacaaGreatDoorQ14
namespace Go.Proofs.YtblpknkgjkbacaaGreatDoor
set_option linter.unusedVariables false
open Go.RowKit Go.Maps Go.WideMaps
variable {w w' : World} {R st b k a e : Nat}
theorem box7_set {X : Nat} {x0 x1 x2 x3 x4 x5 x6 : Value} {T : TypeId} (hr : w.heap[X]? = some (.cells #[x0, x1, x2, x3, x4, x5, x6] T (0, 0))) (y0 y1 y2 y3 y4 y5 y6 : Value) :
    (((((((w.setCell ⟨X, 0, none⟩ y0).setCell ⟨X, 1, none⟩ y1).setCell ⟨X, 2, none⟩ y2).setCell ⟨X, 3, none⟩ y3).setCell ⟨X, 4, none⟩ y4).setCell ⟨X, 5, none⟩ y5).setCell ⟨X, 6, none⟩ y6).heap[X]? = some (.cells #[y0, y1, y2, y3, y4, y5, y6] T (0, 0)) ∧
    w.grownBy (((((((w.setCell ⟨X, 0, none⟩ y0).setCell ⟨X, 1, none⟩ y1).setCell ⟨X, 2, none⟩ y2).setCell ⟨X, 3, none⟩ y3).setCell ⟨X, 4, none⟩ y4).setCell ⟨X, 5, none⟩ y5).setCell ⟨X, 6, none⟩ y6) (some X) :=
  ⟨by simp [World.setCell, Array.getElem?_modify, hr], grownBy_trans (grownBy_trans (grownBy_trans (grownBy_trans (grownBy_trans (grownBy_trans (grown_set _ _ _ _) (grown_set _ _ _ _)) (grown_set _ _ _ _)) (grown_set _ _ _ _)) (grown_set _ _ _ _)) (grown_set _ _ _ _)) (grown_set _ _ _ _)⟩
theorem box7_cells {X : Nat} {x0 x1 x2 x3 x4 x5 x6 : Value} {T : TypeId} (h : w.heap[X]? = some (.cells #[x0, x1, x2, x3, x4, x5, x6] T (0, 0))) :
    (w.cell? ⟨X, 0, none⟩ = some x0 ∧ w.cell? ⟨X, 1, none⟩ = some x1 ∧ w.cell? ⟨X, 2, none⟩ = some x2 ∧ w.cell? ⟨X, 3, none⟩ = some x3 ∧ w.cell? ⟨X, 4, none⟩ = some x4 ∧ w.cell? ⟨X, 5, none⟩ = some x5 ∧ w.cell? ⟨X, 6, none⟩ = some x6) ∧ ∀ j, w.frozen? ⟨X, j, none⟩ = false := by
  refine ⟨⟨?_, ?_, ?_, ?_, ?_, ?_, ?_⟩, fun j => by simp [World.frozen?, h]⟩ <;> (unfold World.cell?; rw [h]; rfl)
/-- The zero of an expression. -/
def zeroE : Array Value := #[.int .i64 0, .int .i64 0, .int .i64 0, .slice none 0 0, .string ⟨#[]⟩, .slice none 0 0, .slice none 0 0]
theorem Tryz.infoExpr : (Tryz.prog.info? 93).map (·.size) = some 7 := by kernel_rfl
set_option maxHeartbeats 4000000 in
theorem factor_num (n : Int) (h : RdAt w R lit 2 st b) (h1 : st ≤ b) (h2 : b ≤ 31) (hl : LitAt b k a e) (hn : Lib.atoi (wordN lit st b).data.toList = some n) (hz : (wordN lit st b).size ≤ 18) (o1 : isN lit 2 st b ⟨#[40]⟩ = false) (o2 : isN lit 2 st b ⟨#[60]⟩ = false) :
    Calls Tryz.prog 170 #[.pointer (some ⟨R, 0, none⟩)] w (fun e' w' => e' = .returned (.agg #[.int .i64 1, .int .i64 n, .int .i64 0, .slice none 0 0, .string ⟨#[]⟩, .slice none 0 0, .slice none 0 0]) ∧ RdAt w' R lit k a e ∧ w.grownBy w' (some R)) := by
  have hlt := h.lt
  have ha := World.grownBy_alloc w (.cells zeroE 93) none
  have H0 := Lib.hid (h.kept ha (by simp))
  have X0 := Lib.hid (heap_alloc_new w (.cells zeroE 93))
  have G0 := Lib.hid (grownBy_any (some R) ha)
  unfold zeroE at *
  clear h ha
  have T1 := ()
  go_enter Tryz.func170, Tryz.ntmps170
  go_upto_region 9 with (go_at_call 128; go_must (first
      | (clear T1; refine (accept_no H0.out (by decide) h1 h2 o1).mono ?_; rintro e' w1 ⟨rfl, hg⟩; have H1 := Lib.hid (H0.out.kept hg (by simp)); have X1 := Lib.hid (heap_keep X0.out hg (by simp)); have G1 := Lib.hid (grownBy_trans G0.out (grownBy_any _ hg)); clear hg)
      | (refine (accept_no H1.out (by decide) h1 h2 o2).mono ?_; rintro e' w2 ⟨rfl, hg⟩; have H2 := Lib.hid (H1.out.kept hg (by simp)); have X2 := Lib.hid (heap_keep X1.out hg (by simp)); have G2 := Lib.hid (grownBy_trans G1.out (grownBy_any _ hg)); obtain ⟨c0, c1, c2, c3, c4, cf⟩ := H2.out.cells; clear hg)))
  go_wp2_with (go_at_call 104; go_must (refine (number_yes H2.out (by decide) h1 h2 n hz hn).mono ?_; rintro e' w3 ⟨rfl, hw⟩; obtain ⟨h3, g3⟩ := went_lit hw hl; have H3 := Lib.hid h3; have X3 := Lib.hid (heap_keep X2.out g3 (by simp; omega)); have G3 := Lib.hid (grownBy_trans G2.out g3); obtain ⟨⟨x0, x1, x2, x3, x4, x5, x6⟩, xf⟩ := box7_cells X3.out; clear hw h3 g3))
  obtain ⟨f1, f2⟩ := box7_set X3.out (.int .i64 1) (.int .i64 n) (.int .i64 0) (.slice none 0 0) (.string ⟨#[]⟩) (.slice none 0 0) (.slice none 0 0)
  exact bodyPost_ret (results_cell_row rfl _ _ w.heap.size _ _ _ _ rfl f1 Tryz.underlying93 rfl Tryz.infoExpr) rfl ⟨rfl, H3.out.kept f2 (by simp; omega), grown_new G3.out f2 (fun i hi => by cases hi; exact Nat.le_refl _)⟩
set_option maxHeartbeats 4000000 in
theorem factor_cell {s1 b1 s2 b2 s3 b3 : Nat} (n : Int) (h : RdAt w R lit 3 st b) (hP : PlacePos st b s1 b1 s2 b2 s3 b3 k a e) (hn : Lib.atoi (wordN lit s2 b2).data.toList = some n) (hz : (wordN lit s2 b2).size ≤ 18) (hn9 : -1000000000 ≤ n ∧ n ≤ 1000000000) (o1 : isN lit 3 st b ⟨#[40]⟩ = false) (o2 : isN lit 3 st b ⟨#[60]⟩ = false) :
    Calls Tryz.prog 170 #[.pointer (some ⟨R, 0, none⟩)] w (fun e' w' => ∃ v, e' = .returned (.agg #[.int .i64 3, .int .i64 0, .int .i64 0, .slice none 0 0, .string (wordN lit st b), v, .slice none 0 0]) ∧ OneForm w w' n v ∧ RdAt w' R lit k a e ∧ w.grownBy w' (some R)) := by
  have hlt := h.lt
  have ha := World.grownBy_alloc w (.cells zeroE 93) none
  have H0 := Lib.hid (h.kept ha (by simp))
  have X0 := Lib.hid (heap_alloc_new w (.cells zeroE 93))
  have G0 := Lib.hid (grownBy_any (some R) ha)
  have h1 := hP.le0.1
  have h2 := hP.le0.2.1
  unfold zeroE at *
  clear h ha
  have T1 := ()
  go_enter Tryz.func170, Tryz.ntmps170
  go_upto_region 9 with (go_at_call 128; go_must (first
      | (clear T1; refine (accept_no H0.out (by decide) h1 h2 o1).mono ?_; rintro e' w1 ⟨rfl, hg⟩; have H1 := Lib.hid (H0.out.kept hg (by simp)); have X1 := Lib.hid (heap_keep X0.out hg (by simp)); have G1 := Lib.hid (grownBy_trans G0.out (grownBy_any _ hg)); clear hg)
      | (refine (accept_no H1.out (by decide) h1 h2 o2).mono ?_; rintro e' w2 ⟨rfl, hg⟩; have H2 := Lib.hid (H1.out.kept hg (by simp)); have X2 := Lib.hid (heap_keep X1.out hg (by simp)); have G2 := Lib.hid (grownBy_trans G1.out (grownBy_any _ hg)); obtain ⟨c0, c1, c2, c3, c4, cf⟩ := H2.out.cells; clear hg)))
  have hsz := G2.out.size
  have hX2 := (Array.getElem?_eq_some_iff.1 X2.out).1
  go_wp2_with (go_at_call 134; go_must (refine (place_lit n H2.out hP hn hz hn9).mono ?_; rintro e' w3 ⟨v, rfl, ho, h3, g3⟩; obtain ⟨q, pq, qcap, rfl, hq, hh⟩ := id ho; have O3 := Lib.hid ho; have H3 := Lib.hid h3; have X3 := Lib.hid (heap_keep X2.out g3 (by simp; omega)); have G3 := Lib.hid (grownBy_trans G2.out g3); obtain ⟨⟨x0, x1, x2, x3, x4, x5, x6⟩, xf⟩ := box7_cells X3.out; clear ho h3 g3))
  obtain ⟨f1, f2⟩ := box7_set X3.out (.int .i64 3) (.int .i64 0) (.int .i64 0) (.slice none 0 0) (.string (wordN lit st b)) (.slice (some ⟨q, 0, none⟩) 1 1) (.slice none 0 0)
  exact bodyPost_ret (results_cell_row rfl _ _ w.heap.size _ _ _ _ rfl f1 Tryz.underlying93 rfl Tryz.infoExpr) rfl ⟨_, rfl, (O3.out.kept f2 (fun i hi => by cases hi; exact hX2)).from hsz, H3.out.kept f2 (by simp; omega), grown_new G3.out f2 (fun i hi => by cases hi; exact Nat.le_refl _)⟩
set_option maxHeartbeats 4000000 in
theorem product_num (n : Int) (h : RdAt w R lit 2 st b) (h1 : st ≤ b) (h2 : b ≤ 31) (hl : LitAt b k a e) (hn : Lib.atoi (wordN lit st b).data.toList = some n) (hz : (wordN lit st b).size ≤ 18) (o1 : isN lit 2 st b ⟨#[40]⟩ = false) (o2 : isN lit 2 st b ⟨#[60]⟩ = false) (hae : a ≤ e) (he : e ≤ 31) (o3 : isN lit k a e ⟨#[42]⟩ = false) :
    Calls Tryz.prog 153 #[.pointer (some ⟨R, 0, none⟩)] w (fun e' w' => e' = .returned (.agg #[.int .i64 1, .int .i64 n, .int .i64 0, .slice none 0 0, .string ⟨#[]⟩, .slice none 0 0, .slice none 0 0]) ∧ RdAt w' R lit k a e ∧ w.grownBy w' (some R)) := by
  have hlt := h.lt
  have ha := World.grownBy_alloc w (.cells zeroE 93) none
  have H0 := Lib.hid (h.kept ha (by simp))
  have X0 := Lib.hid (heap_alloc_new w (.cells zeroE 93))
  have G0 := Lib.hid (grownBy_any (some R) ha)
  unfold zeroE at *
  clear h ha
  go_enter Tryz.func153, Tryz.ntmps153
  go_upto_region 2 with (go_at_call 170; go_must (refine (factor_num n H0.out h1 h2 hl hn hz o1 o2).mono ?_; rintro e' w1 ⟨rfl, h3, g3⟩; have H1 := Lib.hid h3; have X1 := Lib.hid (heap_keep X0.out g3 (by simp; omega)); have G1 := Lib.hid (grownBy_trans G0.out g3); clear h3 g3))
  have hb := World.grownBy_alloc w1 (.cells #[.int .i64 1, .int .i64 n, .int .i64 0, .slice none 0 0, .string ⟨#[]⟩, .slice none 0 0, .slice none 0 0] 93) none
  have Y2 := Lib.hid (heap_alloc_new w1 (.cells #[.int .i64 1, .int .i64 n, .int .i64 0, .slice none 0 0, .string ⟨#[]⟩, .slice none 0 0, .slice none 0 0] 93))
  have H2 := Lib.hid (H1.out.kept hb (by simp))
  have X2 := Lib.hid (heap_keep X1.out hb (by simp))
  have G2 := Lib.hid (grownBy_trans G1.out (grownBy_any _ hb))
  clear hb
  refine wp_loop_once ?_
  go_wp2_with (go_at_call 128; go_must (refine (accept_no H2.out (by decide) hae he o3).mono ?_; rintro e' w3 ⟨rfl, hg⟩; have H3 := Lib.hid (H2.out.kept hg (by simp)); have X3 := Lib.hid (heap_keep X2.out hg (by simp)); have G3 := Lib.hid (grownBy_trans G2.out (grownBy_any _ hg)); obtain ⟨⟨x0, x1, x2, x3, x4, x5, x6⟩, xf⟩ := box7_cells X3.out; obtain ⟨⟨y0, y1, y2, y3, y4, y5, y6⟩, yf⟩ := box7_cells (heap_keep Y2.out hg (by simp)); clear hg))
  obtain ⟨f1, f2⟩ := box7_set X3.out (.int .i64 1) (.int .i64 n) (.int .i64 0) (.slice none 0 0) (.string ⟨#[]⟩) (.slice none 0 0) (.slice none 0 0)
  exact bodyPost_ret (results_cell_row rfl _ _ w.heap.size _ _ _ _ rfl f1 Tryz.underlying93 rfl Tryz.infoExpr) rfl ⟨rfl, H3.out.kept f2 (by simp; omega), grown_new G3.out f2 (fun i hi => by cases hi; exact Nat.le_refl _)⟩
set_option maxHeartbeats 4000000 in
theorem product_cell {s1 b1 s2 b2 s3 b3 : Nat} (n : Int) (h : RdAt w R lit 3 st b) (hP : PlacePos st b s1 b1 s2 b2 s3 b3 k a e) (hn : Lib.atoi (wordN lit s2 b2).data.toList = some n) (hz : (wordN lit s2 b2).size ≤ 18) (hn9 : -1000000000 ≤ n ∧ n ≤ 1000000000) (o1 : isN lit 3 st b ⟨#[40]⟩ = false) (o2 : isN lit 3 st b ⟨#[60]⟩ = false) (hae : a ≤ e) (he : e ≤ 31) (o3 : isN lit k a e ⟨#[42]⟩ = false) :
    Calls Tryz.prog 153 #[.pointer (some ⟨R, 0, none⟩)] w (fun e' w' => ∃ q, e' = .returned (.agg #[.int .i64 3, .int .i64 0, .int .i64 0, .slice none 0 0, .string (wordN lit st b), .slice (some ⟨q, 0, none⟩) 1 1, .slice none 0 0]) ∧ OneForm w w' n (.slice (some ⟨q, 0, none⟩) 1 1) ∧ RdAt w' R lit k a e ∧ w.grownBy w' (some R)) := by
  have hlt := h.lt
  have ha := World.grownBy_alloc w (.cells zeroE 93) none
  have H0 := Lib.hid (h.kept ha (by simp))
  have X0 := Lib.hid (heap_alloc_new w (.cells zeroE 93))
  have G0 := Lib.hid (grownBy_any (some R) ha)
  have hs0 : (w.alloc (.cells zeroE 93)).heap.size = w.heap.size + 1 := World.size_alloc _ _
  unfold zeroE at *
  clear h ha
  go_enter Tryz.func153, Tryz.ntmps153
  go_upto_region 2 with (go_at_call 170; go_must (refine (factor_cell n H0.out hP hn hz hn9 o1 o2).mono ?_; rintro e' w1 ⟨v, rfl, ho, h3, g3⟩; obtain ⟨q, pq, qcap, rfl, hq, hh⟩ := id ho; have O1 := Lib.hid ho; have H1 := Lib.hid h3; have X1 := Lib.hid (heap_keep X0.out g3 (by simp; omega)); have G1 := Lib.hid (grownBy_trans G0.out g3); clear ho h3 g3 hq hh))
  have hb := World.grownBy_alloc w1 (.cells #[.int .i64 3, .int .i64 0, .int .i64 0, .slice none 0 0, .string (wordN lit st b), .slice (some ⟨q, 0, none⟩) 1 1, .slice none 0 0] 93) none
  have Y2 := Lib.hid (heap_alloc_new w1 (.cells #[.int .i64 3, .int .i64 0, .int .i64 0, .slice none 0 0, .string (wordN lit st b), .slice (some ⟨q, 0, none⟩) 1 1, .slice none 0 0] 93))
  have H2 := Lib.hid (H1.out.kept hb (by simp))
  have X2 := Lib.hid (heap_keep X1.out hb (by simp))
  have G2 := Lib.hid (grownBy_trans G1.out (grownBy_any _ hb))
  have O2 := Lib.hid (O1.out.kept hb (fun i hi => by cases hi))
  clear hb
  refine wp_loop_once ?_
  go_wp2_with (go_at_call 128; go_must (refine (accept_no H2.out (by decide) hae he o3).mono ?_; rintro e' w3 ⟨rfl, hg⟩; have H3 := Lib.hid (H2.out.kept hg (by simp)); have X3 := Lib.hid (heap_keep X2.out hg (by simp)); have G3 := Lib.hid (grownBy_trans G2.out (grownBy_any _ hg)); have O3 := Lib.hid (O2.out.kept hg (fun i hi => by cases hi)); obtain ⟨⟨x0, x1, x2, x3, x4, x5, x6⟩, xf⟩ := box7_cells X3.out; obtain ⟨⟨y0, y1, y2, y3, y4, y5, y6⟩, yf⟩ := box7_cells (heap_keep Y2.out hg (by simp)); clear hg))
  obtain ⟨f1, f2⟩ := box7_set X3.out (.int .i64 3) (.int .i64 0) (.int .i64 0) (.slice none 0 0) (.string (wordN lit st b)) (.slice (some ⟨q, 0, none⟩) 1 1) (.slice none 0 0)
  exact bodyPost_ret (results_cell_row rfl _ _ w.heap.size _ _ _ _ rfl f1 Tryz.underlying93 rfl Tryz.infoExpr) rfl ⟨q, rfl, (O3.out.kept f2 (fun i hi => by cases hi; omega)).from (by omega), H3.out.kept f2 (by simp; omega), grown_new G3.out f2 (fun i hi => by cases hi; exact Nat.le_refl _)⟩
/-- The expression of the text: a cell plus 7. -/
def SumLit (R : Nat) (w : World) (e : Ending) (w' : World) : Prop := ∃ q g, e = .returned (.agg #[.int .i64 4, .int .i64 0, .int .i64 0, .slice none 0 0, .string ⟨#[]⟩, .slice none 0 0, .slice (some ⟨g, 0, none⟩) 2 2]) ∧ w.heap.size ≤ g ∧
  w'.heap[g]? = some (.cells #[.int .i64 3, .int .i64 0, .int .i64 0, .slice none 0 0, .string ⟨#[97]⟩, .slice (some ⟨q, 0, none⟩) 1 1, .slice none 0 0, .int .i64 1, .int .i64 7, .int .i64 0, .slice none 0 0, .string ⟨#[]⟩, .slice none 0 0, .slice none 0 0] 93 (0, 0)) ∧
  OneForm w w' 0 (.slice (some ⟨q, 0, none⟩) 1 1) ∧ RdAt w' R lit 4 30 31 ∧ w.grownBy w' (some R)
theorem nm22 : wordN lit 22 23 = ⟨#[97]⟩ := by decide +kernel
set_option maxHeartbeats 8000000 in
theorem sum_lit (h : RdAt w R lit 3 22 23) :
    Calls Tryz.prog 135 #[.pointer (some ⟨R, 0, none⟩)] w (SumLit R w) := by
  have hlt := h.lt
  have ha := World.grownBy_alloc w (.cells zeroE 93) none
  have H0 := Lib.hid (h.kept ha (by simp))
  have X0 := Lib.hid (heap_alloc_new w (.cells zeroE 93))
  have G0 := Lib.hid (grownBy_any (some R) ha)
  have hs0 : (w.alloc (.cells zeroE 93)).heap.size = w.heap.size + 1 := World.size_alloc _ _
  unfold zeroE at *
  clear h ha
  have T1 := ()
  go_enter Tryz.func135, Tryz.ntmps135
  go_upto_region 2 with (go_at_call 153; go_must (refine (product_cell 0 H0.out place2 (by decide +kernel) (by decide +kernel) (by omega) (by decide +kernel) (by decide +kernel) (by decide) (by decide) (by decide +kernel)).mono ?_; rintro e' w1 ⟨q, rfl, ho, h3, g3⟩; rw [nm22]; have O1 := Lib.hid ho; have H1 := Lib.hid h3; have X1 := Lib.hid (heap_keep X0.out g3 (by simp; omega)); have G1 := Lib.hid (grownBy_trans G0.out g3); clear ho h3 g3))
  have hb := World.grownBy_alloc w1 (.cells #[.int .i64 3, .int .i64 0, .int .i64 0, .slice none 0 0, .string ⟨#[97]⟩, .slice (some ⟨q, 0, none⟩) 1 1, .slice none 0 0] 93) none
  have Y2 := Lib.hid (heap_alloc_new w1 (.cells #[.int .i64 3, .int .i64 0, .int .i64 0, .slice none 0 0, .string ⟨#[97]⟩, .slice (some ⟨q, 0, none⟩) 1 1, .slice none 0 0] 93))
  have H2 := Lib.hid (H1.out.kept hb (by simp))
  have X2 := Lib.hid (heap_keep X1.out hb (by simp))
  have G2 := Lib.hid (grownBy_trans G1.out (grownBy_any _ hb))
  have O2 := Lib.hid (O1.out.kept hb (fun i hi => by cases hi))
  clear hb
  have hs2 := G1.out.size
  have hqY := O1.out.lt
  have hXl := (Array.getElem?_eq_some_iff.1 X1.out).1
  have hYl := (Array.getElem?_eq_some_iff.1 Y2.out).1
  clear H0 X0 G0 H1 X1 G1 O1
  generalize w1.alloc (.cells #[.int .i64 3, .int .i64 0, .int .i64 0, .slice none 0 0, .string ⟨#[97]⟩, .slice (some ⟨q, 0, none⟩) 1 1, .slice none 0 0] 93) = w2 at *
  generalize w1.heap.size = Y at *
  refine wp_loop_rounds 2 ?_
  rw [rounds_succ]
  go_upto_region 8 with (first
    | (go_at_call 77; go_must (refine (is_any H2.out (by decide) (by decide) (by decide) false (p := ⟨#[45]⟩) (by decide +kernel)).mono ?_; rintro e' w3 ⟨rfl, hg⟩; have H3 := Lib.hid (H2.out.kept hg (by simp)); have X3 := Lib.hid (heap_keep X2.out hg (by simp)); have Y3 := Lib.hid (heap_keep Y2.out hg (by simp)); have G3 := Lib.hid (grownBy_trans G2.out (grownBy_any _ hg)); have O3 := Lib.hid (O2.out.kept hg (fun i hi => by cases hi)); clear hg))
    | (go_at_call 128; go_must (refine (accept_yes (p := ⟨#[43]⟩) H3.out (by decide) (by decide) (by decide) (by decide +kernel)).mono ?_; rintro e' w4 ⟨rfl, hw⟩; obtain ⟨h4, g4⟩ := went_lit hw l28; have H4 := Lib.hid h4; have X4 := Lib.hid (heap_keep X3.out g4 (by simp; omega)); have Y4 := Lib.hid (heap_keep Y3.out g4 (by simp; omega)); have G4 := Lib.hid (grownBy_trans G3.out g4); have O4 := Lib.hid (O3.out.kept g4 (fun i hi => by cases hi; omega)); clear hw h4 g4))
    | (go_at_call 153; go_must (refine (product_num 7 H4.out (by decide) (by decide) l30 (by decide +kernel) (by decide +kernel) (by decide +kernel) (by decide +kernel) (by decide) (by decide) (by decide +kernel)).mono ?_; rintro e' w5 ⟨rfl, h5, g5⟩; have H5 := Lib.hid h5; have X5 := Lib.hid (heap_keep X4.out g5 (by simp; omega)); have Y5 := Lib.hid (heap_keep Y4.out g5 (by simp; omega)); have G5 := Lib.hid (grownBy_trans G4.out g5); have O5 := Lib.hid (O4.out.kept g5 (fun i hi => by cases hi; omega)); clear h5 g5)))
  have hb := World.grownBy_alloc w5 (.cells #[.int .i64 1, .int .i64 7, .int .i64 0, .slice none 0 0, .string ⟨#[]⟩, .slice none 0 0, .slice none 0 0] 93) none
  have Z6 := Lib.hid (heap_alloc_new w5 (.cells #[.int .i64 1, .int .i64 7, .int .i64 0, .slice none 0 0, .string ⟨#[]⟩, .slice none 0 0, .slice none 0 0] 93))
  have H6 := Lib.hid (H5.out.kept hb (by simp))
  have X6 := Lib.hid (heap_keep X5.out hb (by simp))
  have Y6 := Lib.hid (heap_keep Y5.out hb (by simp))
  have G6 := Lib.hid (grownBy_trans G5.out (grownBy_any _ hb))
  have O6 := Lib.hid (O5.out.kept hb (fun i hi => by cases hi))
  have hY5 := (Array.getElem?_eq_some_iff.1 Y5.out).1
  clear hb H2 X2 Y2 G2 O2 H3 X3 Y3 G3 O3 H4 X4 Y4 G4 O4 H5 X5 Y5 G5 O5
  generalize w5.alloc (.cells #[.int .i64 1, .int .i64 7, .int .i64 0, .slice none 0 0, .string ⟨#[]⟩, .slice none 0 0, .slice none 0 0] 93) = w6 at *
  generalize w5.heap.size = Z at *
  obtain ⟨⟨y0, y1, y2, y3, y4, y5, y6⟩, yf⟩ := box7_cells Y6.out
  obtain ⟨⟨z0, z1, z2, z3, z4, z5, z6⟩, zf⟩ := box7_cells Z6.out
  have hc := World.grownBy_alloc w6 (.cells #[.int .i64 3, .int .i64 0, .int .i64 0, .slice none 0 0, .string ⟨#[97]⟩, .slice (some ⟨q, 0, none⟩) 1 1, .slice none 0 0, .int .i64 1, .int .i64 7, .int .i64 0, .slice none 0 0, .string ⟨#[]⟩, .slice none 0 0, .slice none 0 0] 93) none
  obtain ⟨⟨u0, u1, u2, u3, u4, u5, u6⟩, uf⟩ := box7_cells (heap_keep Y6.out hc (by simp))
  go_wp2_with fail
  rw [rounds_succ]
  have A7 := Lib.hid (heap_alloc_new w6 (.cells #[.int .i64 3, .int .i64 0, .int .i64 0, .slice none 0 0, .string ⟨#[97]⟩, .slice (some ⟨q, 0, none⟩) 1 1, .slice none 0 0, .int .i64 1, .int .i64 7, .int .i64 0, .slice none 0 0, .string ⟨#[]⟩, .slice none 0 0, .slice none 0 0] 93))
  have H7 := Lib.hid (H6.out.kept hc (by simp))
  have X7 := Lib.hid (heap_keep X6.out hc (by simp))
  have Y7 := Lib.hid (heap_keep Y6.out hc (by simp))
  have G7 := Lib.hid (grownBy_trans G6.out (grownBy_any _ hc))
  have O7 := Lib.hid (O6.out.kept hc (fun i hi => by cases hi))
  have hw6 := G6.out.size
  have hY6 := (Array.getElem?_eq_some_iff.1 Y6.out).1
  clear hc u0 u1 u2 u3 u4 u5 u6 uf y0 y1 y2 y3 y4 y5 y6 yf z0 z1 z2 z3 z4 z5 z6 zf H6 X6 Y6 G6 O6 Z6
  generalize w6.alloc (.cells #[.int .i64 3, .int .i64 0, .int .i64 0, .slice none 0 0, .string ⟨#[97]⟩, .slice (some ⟨q, 0, none⟩) 1 1, .slice none 0 0, .int .i64 1, .int .i64 7, .int .i64 0, .slice none 0 0, .string ⟨#[]⟩, .slice none 0 0, .slice none 0 0] 93) = w7 at *
  generalize w6.heap.size = g at *
  obtain ⟨f1, f2⟩ := box7_set Y7.out (.int .i64 4) (.int .i64 0) (.int .i64 0) (.slice none 0 0) (.string ⟨#[]⟩) (.slice none 0 0) (.slice (some ⟨g, 0, none⟩) 2 2)
  have A8 := Lib.hid (heap_keep A7.out f2 (by simp; omega))
  have H8 := Lib.hid (H7.out.kept f2 (by simp; omega))
  have X8 := Lib.hid (heap_keep X7.out f2 (by simp; omega))
  have Y8 := Lib.hid f1
  have G8 := Lib.hid (grown_new G7.out f2 (fun i hi => by cases hi; omega))
  have O8 := Lib.hid (O7.out.other f2 (by simp; omega))
  clear f1 f2 A7 H7 X7 Y7 G7 O7
  generalize ((((((w7.setCell ⟨Y, 0, none⟩ (.int .i64 4)).setCell ⟨Y, 1, none⟩ (.int .i64 0)).setCell ⟨Y, 2, none⟩ (.int .i64 0)).setCell ⟨Y, 3, none⟩ (.slice none 0 0)).setCell ⟨Y, 4, none⟩ (.string ⟨#[]⟩)).setCell ⟨Y, 5, none⟩ (.slice none 0 0)).setCell ⟨Y, 6, none⟩ (.slice (some ⟨g, 0, none⟩) 2 2) = w8 at *
  have T2 := ()
  have hYl8 := (Array.getElem?_eq_some_iff.1 Y8.out).1
  go_wp2_with (first
    | (go_at_call 77; go_must (refine (is_any H8.out (by decide) (by decide) (by decide) false (p := ⟨#[45]⟩) (by decide +kernel)).mono ?_; rintro e' w9 ⟨rfl, hg⟩; have X9 := Lib.hid (heap_keep X8.out hg (by simp)); have Y9 := Lib.hid (heap_keep Y8.out hg (by simp)); have A9 := Lib.hid (heap_keep A8.out hg (by simp)); have G9 := Lib.hid (grownBy_trans G8.out (grownBy_any _ hg)); have O9 := Lib.hid (O8.out.other hg (by simp)); have H9 := Lib.hid (H8.out.kept hg (by simp)); clear hg))
    | (go_at_call 128; go_must (first
      | (clear T2; refine (accept_no (p := ⟨#[43]⟩) H9.out (by decide) (by decide) (by decide) (by decide +kernel)).mono ?_; rintro e' w10 ⟨rfl, hg⟩; have X10 := Lib.hid (heap_keep X9.out hg (by simp)); have Y10 := Lib.hid (heap_keep Y9.out hg (by simp)); have A10 := Lib.hid (heap_keep A9.out hg (by simp)); have G10 := Lib.hid (grownBy_trans G9.out (grownBy_any _ hg)); have O10 := Lib.hid (O9.out.other hg (by simp)); have H10 := Lib.hid (H9.out.kept hg (by simp)); clear hg)
      | (refine (accept_no (p := ⟨#[45]⟩) H10.out (by decide) (by decide) (by decide) (by decide +kernel)).mono ?_; rintro e' w11 ⟨rfl, hg⟩; have X11 := Lib.hid (heap_keep X10.out hg (by simp)); have Y11 := Lib.hid (heap_keep Y10.out hg (by simp)); have A11 := Lib.hid (heap_keep A10.out hg (by simp)); have G11 := Lib.hid (grownBy_trans G10.out (grownBy_any _ hg)); have O11 := Lib.hid (O10.out.other hg (by simp)); have H11 := Lib.hid (H10.out.kept hg (by simp)); clear hg; obtain ⟨⟨x0, x1, x2, x3, x4, x5, x6⟩, xf⟩ := box7_cells X11.out; obtain ⟨⟨y0, y1, y2, y3, y4, y5, y6⟩, yf⟩ := box7_cells Y11.out))))
  obtain ⟨f1, f2⟩ := box7_set X11.out (.int .i64 4) (.int .i64 0) (.int .i64 0) (.slice none 0 0) (.string ⟨#[]⟩) (.slice none 0 0) (.slice (some ⟨g, 0, none⟩) 2 2)
  exact bodyPost_ret (results_cell_row rfl _ _ w.heap.size _ _ _ _ rfl f1 Tryz.underlying93 rfl Tryz.infoExpr) rfl ⟨q, g, rfl, hw6, heap_keep A11.out f2 (by simp; omega), (O11.out.other f2 (by have := O11.out; obtain ⟨q', p, cap, hq', h1, h2⟩ := this; cases hq'; simp; omega)).from (by omega), H11.out.kept f2 (by simp; omega), grown_new G11.out f2 (fun i hi => by cases hi; exact Nat.le_refl _)⟩
end Go.Proofs.YtblpknkgjkbacaaGreatDoor
