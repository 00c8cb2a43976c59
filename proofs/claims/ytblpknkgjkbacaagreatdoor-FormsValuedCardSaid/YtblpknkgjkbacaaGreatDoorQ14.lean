/-
 A form of the text is read: it is one number. A place of the text is read, and factors: a cell, a number.
-/
import Derived.LoopN
import Derived.Test.YtblpknkgjkbacaaGreatDoorQ08
import Derived.Test.YtblpknkgjkbacaaGreatDoorQ13
namespace Go.Proofs.YtblpknkgjkbacaaGreatDoor
set_option linter.unusedVariables false
open Go.RowKit Go.Maps Go.WideMaps
variable {w w' : World} {R st b k a e : Nat}
/-- A new sum: it is 0. -/
def NewTot (w : World) (e : Ending) (w' : World) : Prop := ∃ T Bm, e = .returned (.pointer (some ⟨T, 0, none⟩)) ∧ w.heap.size ≤ T ∧ w.heap.size ≤ Bm ∧ T ≠ Bm ∧ TotAt w' T 0 Bm ∧ MapAt w' Bm 0 (.map []) ∧ w.grownBy w' none
set_option maxHeartbeats 1000000 in
theorem newTotal_any (w : World) : Calls Tryz.prog 32 #[] w (NewTot w) := by
  have hm := World.ownsMap_made (H := Unit) w Tryz.prog 9 (plainElem Tryz.prog 3)
  have HM := Lib.hid hm
  clear hm
  go_enter Tryz.func32, Tryz.ntmps32
  go_wp2
  rw [run_makeMap]
  simp only [Result.andThen]
  rw [Oper.upon_value]
  go_wp2
  go_ret
  have h1 := World.grownBy_alloc w (.map #[] 0) none
  have h2 := World.grownBy_alloc (w.alloc (.map #[] 0)) (.cells #[.int .i64 0, .map (some w.heap.size)] 75) none
  have h3 := heap_alloc_new (w.alloc (.map #[] 0)) (.cells #[.int .i64 0, .map (some w.heap.size)] 75)
  exact ⟨w.heap.size + 1, w.heap.size, rfl, Nat.le_succ _, Nat.le_refl _, by omega, by unfold TotAt; simpa using h3, World.ownsMap.kept HM.out h2 (by simp), grownBy_trans h1 h2⟩
set_option maxHeartbeats 2000000 in
theorem term_num (sg n c : Int) (T Bm : Nat) (hT : TotAt w T c Bm) (h : RdAt w R lit 2 st b) (hRT : R ≠ T) (hb : st ≤ b) (hb2 : b ≤ 31) (hl : LitAt b k a e) (hae : a ≤ e) (he : e ≤ 31) (hn : Lib.atoi (wordN lit st b).data.toList = some n) (hz : (wordN lit st b).size ≤ 18) (hn9 : -1000000000 ≤ n ∧ n ≤ 1000000000) (hc9 : -1000000000 ≤ c ∧ c ≤ 1000000000) (hs : sg = 1 ∨ sg = -1) (hno : isN lit k a e ⟨#[42]⟩ = false) :
    Calls Tryz.prog 169 #[.pointer (some ⟨R, 0, none⟩), .pointer (some ⟨T, 0, none⟩), .int .i64 sg] w (fun e' w' => e' = .returned (.tuple #[]) ∧ ∃ w1, RdAt w1 R lit k a e ∧ w.grownBy w1 (some R) ∧ w' = w1.setCell ⟨T, 0, none⟩ (.int .i64 (c + sg * n))) := by
  obtain ⟨c0, c1, c2, c3, c4, cf⟩ := h.cells
  have H := Lib.hid h
  have HT := Lib.hid hT
  have hw1 : IntKind.i64.wrap (sg * n) = sg * n := by rcases hs with rfl | rfl <;> exact wrap_near (by omega)
  have hw2 : IntKind.i64.wrap (c + sg * n) = c + sg * n := by rcases hs with rfl | rfl <;> exact wrap_near (by omega)
  clear h hT hs
  go_enter Tryz.func169, Tryz.ntmps169
  go_wp2_with (first
    | (go_at_call 104; go_must (refine (number_yes H.out (by decide) hb hb2 n hz hn).mono ?_; rintro e' w1 ⟨rfl, hw⟩; obtain ⟨h1, g1⟩ := went_lit hw hl; have H1 := Lib.hid h1; have G1 := Lib.hid g1; clear hw h1 g1))
    | (go_at_call 128; go_must (refine (accept_no (p := ⟨#[42]⟩) H1.out (by decide) hae he hno).mono ?_; rintro e' w2 ⟨rfl, hg⟩; have H2 := Lib.hid (H1.out.kept hg (by simp)); have G2 := Lib.hid (grownBy_trans G1.out (grownBy_any _ hg)); obtain ⟨t0, t1, tf⟩ := cell_of_two (heap_keep HT.out G2.out (by simpa using hRT)); clear hg)))
  exact bodyPost_ret (results_none rfl _ _ _) rfl ⟨rfl, w2, H2.out, G2.out, rfl⟩
theorem formX_nil {c : Int} {us : List TermD} (h : FormX (fun _ => 0) c (c, us)) : us = [] := by
  cases us with
  | nil => rfl
  | cons t r =>
    obtain ⟨h1, h2, h3⟩ := (h.mem t.1 t.2).1 (List.mem_cons_self ..)
    exact absurd h3.symm h2
/-- What stands around a number that is a form: nothing goes on. -/
structure Alone (st b k a e : Nat) : Prop where
  le : st ≤ b
  le2 : b ≤ 31
  pos : LitAt b k a e
  le3 : a ≤ e
  le4 : e ≤ 31
  no1 : isN lit 2 st b ⟨#[43]⟩ = false
  no2 : isN lit 2 st b ⟨#[45]⟩ = false
  no3 : isN lit k a e ⟨#[42]⟩ = false
  no4 : isN lit k a e ⟨#[43]⟩ = false
  no5 : isN lit k a e ⟨#[45]⟩ = false
set_option maxHeartbeats 4000000 in
theorem form_num (n : Int) (h : RdAt w R lit 2 st b) (hA : Alone st b k a e) (hn : Lib.atoi (wordN lit st b).data.toList = some n) (hz : (wordN lit st b).size ≤ 18) (hn9 : -1000000000 ≤ n ∧ n ≤ 1000000000) :
    Calls Tryz.prog 152 #[.pointer (some ⟨R, 0, none⟩)] w (fun e' w' => ∃ p cap, e' = .returned (.agg #[.int .i64 n, .slice p 0 cap]) ∧ RdAt w' R lit k a e ∧ w.grownBy w' (some R)) := by
  have hlt := h.lt
  have H := Lib.hid h
  have HA := Lib.hid hA
  clear h hA
  go_enter Tryz.func152, Tryz.ntmps152
  have ha := World.grownBy_alloc w (.cells #[.int .i64 0, .slice none 0 0] 28) none
  have X0 := Lib.hid (heap_alloc_new w (.cells #[.int .i64 0, .slice none 0 0] 28))
  have G0 := Lib.hid (grownBy_any (some R) ha)
  have hs0 : (w.alloc (.cells #[.int .i64 0, .slice none 0 0] 28)).heap.size = w.heap.size + 1 := World.size_alloc _ _
  have H0 := Lib.hid (H.out.kept ha (by simp))
  clear ha
  go_upto_region 2 with (go_at_call 32; go_must (refine (newTotal_any _).mono ?_; rintro e' w1 ⟨T, Bm, rfl, hT, hB, hTB, htot, hmap, hg⟩; have HT := Lib.hid htot; have HM := Lib.hid hmap; have G1 := Lib.hid (grownBy_trans G0.out (grownBy_any _ hg)); have H1 := Lib.hid (H0.out.kept hg (by simp)); have X1 := Lib.hid (heap_keep X0.out hg (by simp)); clear htot hmap hg))
  have T1 := ()
  have hRT : R ≠ T := by omega
  go_upto_region 3 with (go_at_call 77; go_must (first
    | (clear T1; refine (is_any H1.out (by decide) HA.out.le HA.out.le2 false HA.out.no1).mono ?_; rintro e' w2 ⟨rfl, hg⟩; have HT2 := Lib.hid (heap_keep HT.out hg (by simp)); have HM2 : Hid (MapAt w2 Bm 0 (.map [])) := World.ownsMap.kept HM.out hg (by simp); have G2 := Lib.hid (grownBy_trans G1.out (grownBy_any _ hg)); have H2 := Lib.hid (H1.out.kept hg (by simp)); have X2 := Lib.hid (heap_keep X1.out hg (by simp)); clear hg)
    | (refine (is_any H2.out (by decide) HA.out.le HA.out.le2 false HA.out.no2).mono ?_; rintro e' w3 ⟨rfl, hg⟩; have HT3 := Lib.hid (heap_keep HT2.out hg (by simp)); have HM3 : Hid (MapAt w3 Bm 0 (.map [])) := World.ownsMap.kept HM2.out hg (by simp); have G3 := Lib.hid (grownBy_trans G2.out (grownBy_any _ hg)); have H3 := Lib.hid (H2.out.kept hg (by simp)); have X3 := Lib.hid (heap_keep X2.out hg (by simp)); clear hg)))
  go_upto_region 5 with (go_at_call 169; go_must (refine (term_num 1 n 0 T Bm HT3.out H3.out hRT HA.out.le HA.out.le2 HA.out.pos HA.out.le3 HA.out.le4 hn hz hn9 (by omega) (.inl rfl) HA.out.no3).mono ?_; rintro e' w4 ⟨rfl, wa, hr, hg, rfl⟩))
  have gs := grown_set wa T 0 (.int .i64 n)
  have HT4 : Hid (TotAt (wa.setCell ⟨T, 0, none⟩ (.int .i64 n)) T n Bm) := two_set0 (heap_keep HT3.out hg (by simpa using hRT)) _
  have HM4 : Hid (MapAt (wa.setCell ⟨T, 0, none⟩ (.int .i64 n)) Bm 0 (.map [])) := World.ownsMap.kept (World.ownsMap.kept HM3.out hg (by simp; omega)) gs (by simpa using fun e2 => hTB e2.symm)
  have G4 : Hid (w.grownBy (wa.setCell ⟨T, 0, none⟩ (.int .i64 n)) (some R)) := grown_new (grownBy_trans G3.out hg) gs (fun i hi => by cases hi; omega)
  have H4 := Lib.hid (hr.kept gs (by simpa using fun e2 => hRT e2.symm))
  have X4 := Lib.hid (heap_keep (heap_keep X3.out hg (by simp; omega)) gs (by simp; omega))
  clear hr hg gs
  generalize wa.setCell ⟨T, 0, none⟩ (.int .i64 n) = w4 at *
  refine wp_loop_once ?_
  have T2 := ()
  go_wp2_with (first
    | (go_at_call 128; go_must (first
      | (clear T2; refine (accept_no H4.out (by decide) HA.out.le3 HA.out.le4 HA.out.no4).mono ?_; rintro e' w5 ⟨rfl, hg⟩; have HT5 := Lib.hid (heap_keep HT4.out hg (by simp)); have HM5 : Hid (MapAt w5 Bm 0 (.map [])) := World.ownsMap.kept HM4.out hg (by simp); have G5 := Lib.hid (grownBy_trans G4.out (grownBy_any _ hg)); have H5 := Lib.hid (H4.out.kept hg (by simp)); have X5 := Lib.hid (heap_keep X4.out hg (by simp)); clear hg)
      | (refine (accept_no H5.out (by decide) HA.out.le3 HA.out.le4 HA.out.no5).mono ?_; rintro e' w6 ⟨rfl, hg⟩; have HT6 := Lib.hid (heap_keep HT5.out hg (by simp)); have HM6 : Hid (MapAt w6 Bm 0 (.map [])) := World.ownsMap.kept HM5.out hg (by simp); have G6 := Lib.hid (grownBy_trans G5.out (grownBy_any _ hg)); have H6 := Lib.hid (H5.out.kept hg (by simp)); have X6 := Lib.hid (heap_keep X5.out hg (by simp)); clear hg)))
    | (go_at_call 53; go_must (refine (totForm_any n (fun _ => 0) (.map []) Bm 0 T _ HT6.out HM6.out tab_start (by omega) rfl).mono ?_; rintro e' w7 ⟨us, p, cap, rfl, hf, _, _, hg⟩; obtain rfl := formX_nil hf; have G7 := Lib.hid (grownBy_trans G6.out (grownBy_any _ hg)); have H7 := Lib.hid (H6.out.kept hg (by simp)); have X7 := Lib.hid (heap_keep X6.out hg (by simp)); obtain ⟨x0, x1, xf⟩ := cell_of_two X7.out; clear hg hf)))
  obtain ⟨f1, f2⟩ := two_set X7.out (.int .i64 n) (.slice p 0 cap)
  exact bodyPost_ret (results_cell_row rfl _ _ w.heap.size _ _ _ _ rfl f1 Tryz.underlying28 rfl Tryz.infoForm2) rfl ⟨p, cap, rfl, H7.out.kept f2 (by simp; omega), grown_new G7.out f2 (fun i hi => by cases hi; exact Nat.le_refl _)⟩
end Go.Proofs.YtblpknkgjkbacaaGreatDoor
namespace Go.Proofs.YtblpknkgjkbacaaGreatDoor
open Go.RowKit Go.Maps Go.WideMaps
variable {w w' : World} {R st b k a e : Nat}
/-- One form in a row of its own: a number. -/
def OneForm (w0 : World) (w : World) (n : Int) (v : Value) : Prop := ∃ q p cap, v = .slice (some ⟨q, 0, none⟩) 1 1 ∧ w0.heap.size ≤ q ∧ w.heap[q]? = some (.cells #[.int .i64 n, .slice p 0 cap] 28 (0, 0))
theorem OneForm.kept {w0 : World} {n : Int} {v : Value} (h : OneForm w0 w n v) {r : Option Nat} (hg : w.grownBy w' r) (hr : ∀ i, r = some i → i < w0.heap.size) : OneForm w0 w' n v := by
  obtain ⟨q, p, cap, rfl, h1, h2⟩ := h
  exact ⟨q, p, cap, rfl, h1, heap_keep h2 hg (fun e2 => by have := hr q e2; omega)⟩
theorem OneForm.lt {w0 : World} {n : Int} {q : Nat} (h : OneForm w0 w n (.slice (some ⟨q, 0, none⟩) 1 1)) : q < w.heap.size := by
  obtain ⟨q', p, cap, hq, h1, h2⟩ := h
  cases hq
  exact (Array.getElem?_eq_some_iff.1 h2).1
theorem OneForm.other {w0 : World} {n : Int} {q : Nat} (h : OneForm w0 w n (.slice (some ⟨q, 0, none⟩) 1 1)) {r : Option Nat} (hg : w.grownBy w' r) (hr : r ≠ some q) : OneForm w0 w' n (.slice (some ⟨q, 0, none⟩) 1 1) := by
  obtain ⟨q', p, cap, hq, h1, h2⟩ := h
  cases hq
  exact ⟨q, p, cap, rfl, h1, heap_keep h2 hg hr⟩
theorem OneForm.from {w0 w1 : World} {n : Int} {v : Value} (h : OneForm w1 w n v) (hs : w0.heap.size ≤ w1.heap.size) : OneForm w0 w n v := by
  obtain ⟨q, p, cap, rfl, h1, h2⟩ := h
  exact ⟨q, p, cap, rfl, Nat.le_trans hs h1, h2⟩
set_option maxHeartbeats 2000000 in
theorem several_form (n : Int) (h : RdAt w R lit 2 st b) (hA : Alone st b k a e) (hn : Lib.atoi (wordN lit st b).data.toList = some n) (hz : (wordN lit st b).size ≤ 18) (hn9 : -1000000000 ≤ n ∧ n ≤ 1000000000) (hno : isN lit k a e ⟨#[44]⟩ = false) :
    Calls Tryz.prog 132 #[.pointer (some ⟨R, 0, none⟩), .func (.func 152) #[.pointer (some ⟨R, 0, none⟩)] #[]] w (fun e' w' => ∃ v, e' = .returned v ∧ OneForm w w' n v ∧ RdAt w' R lit k a e ∧ w.grownBy w' (some R)) := by
  have hlt := h.lt
  have H := Lib.hid h
  clear h
  go_enter Tryz.func132, Tryz.ntmps132
  go_upto_region 2 with (go_at_call 152; go_must (refine (form_num n H.out hA hn hz hn9).mono ?_; rintro e' w1 ⟨p, cap, rfl, h1, g1⟩; have H1 := Lib.hid h1; have G1 := Lib.hid g1; clear h1 g1))
  refine wp_loop_once ?_
  have ha := World.grownBy_alloc w1 (.cells #[.int .i64 n, .slice p 0 cap] 28) none
  have H2 := Lib.hid (H1.out.kept ha (by simp))
  have B2 := Lib.hid (heap_alloc_new w1 (.cells #[.int .i64 n, .slice p 0 cap] 28))
  have G2 := Lib.hid (grownBy_trans G1.out (grownBy_any _ ha))
  have hs1 := G1.out.size
  clear ha
  go_wp2_with (go_at_call 128; go_must (refine (accept_no (p := ⟨#[44]⟩) H2.out (by decide) hA.le3 hA.le4 hno).mono ?_; rintro e' w2 ⟨rfl, hg⟩; have H3 := Lib.hid (H2.out.kept hg (by simp)); have B3 := Lib.hid (heap_keep B2.out hg (by simp)); have G3 := Lib.hid (grownBy_trans G2.out (grownBy_any _ hg)); clear hg))
  go_ret
  exact ⟨_, rfl, ⟨w1.heap.size, p, cap, rfl, hs1, B3.out⟩, H3.out, G3.out⟩
/-- Where a place stands: its name, its bracket, its number, its other bracket; what is next then. -/
structure PlacePos (s0 b0 s1 b1 s2 b2 s3 b3 k a e : Nat) : Prop where
  le0 : s0 ≤ b0 ∧ b0 ≤ 31 ∧ s1 ≤ b1 ∧ b1 ≤ 31 ∧ s3 ≤ b3 ∧ b3 ≤ 31
  l0 : LitAt b0 4 s1 b1
  o1 : isN lit 4 s1 b1 ⟨#[91]⟩ = true
  l1 : LitAt b1 2 s2 b2
  alone : Alone s2 b2 4 s3 b3
  c3 : isN lit 4 s3 b3 ⟨#[44]⟩ = false
  o3 : isN lit 4 s3 b3 ⟨#[93]⟩ = true
  l3 : LitAt b3 k a e
theorem place1 : PlacePos 15 16 16 17 17 18 18 19 4 20 21 := ⟨by decide, by decide +kernel, by decide +kernel, by decide +kernel, ⟨by decide, by decide, by decide +kernel, by decide, by decide, by decide +kernel, by decide +kernel, by decide +kernel, by decide +kernel, by decide +kernel⟩, by decide +kernel, by decide +kernel, by decide +kernel⟩
theorem place2 : PlacePos 22 23 23 24 24 25 25 26 4 27 28 := ⟨by decide, by decide +kernel, by decide +kernel, by decide +kernel, ⟨by decide, by decide, by decide +kernel, by decide, by decide, by decide +kernel, by decide +kernel, by decide +kernel, by decide +kernel, by decide +kernel⟩, by decide +kernel, by decide +kernel, by decide +kernel⟩
set_option maxHeartbeats 4000000 in
theorem place_lit {s0 b0 s1 b1 s2 b2 s3 b3 : Nat} (n : Int) (h : RdAt w R lit 3 s0 b0) (hP : PlacePos s0 b0 s1 b1 s2 b2 s3 b3 k a e) (hn : Lib.atoi (wordN lit s2 b2).data.toList = some n) (hz : (wordN lit s2 b2).size ≤ 18) (hn9 : -1000000000 ≤ n ∧ n ≤ 1000000000) :
    Calls Tryz.prog 134 #[.pointer (some ⟨R, 0, none⟩)] w (fun e' w' => ∃ v, e' = .returned (.tuple #[.string (wordN lit s0 b0), v]) ∧ OneForm w w' n v ∧ RdAt w' R lit k a e ∧ w.grownBy w' (some R)) := by
  have hlt := h.lt
  obtain ⟨⟨i1, i2, i3, i4, i5, i6⟩, q1, q2, q3, q4, q5, q6, q7⟩ := hP
  have H := Lib.hid h
  clear h
  have T1 := ()
  go_enter Tryz.func134, Tryz.ntmps134
  go_wp2_with (first
    | (go_at_call 102; go_must (refine (name_yes H.out (by decide) i1 i2).mono ?_; rintro e' w1 ⟨rfl, hw⟩; obtain ⟨h1, g1⟩ := went_lit hw q1; have H1 := Lib.hid h1; have G1 := Lib.hid g1; clear hw h1 g1))
    | (go_at_call 101; go_must (first
      | (clear T1; refine (expect_yes H1.out (by decide) i3 i4 q2).mono ?_; rintro e' w2 ⟨rfl, hw⟩; obtain ⟨h1, g1⟩ := went_lit hw q3; have H2 := Lib.hid h1; have G2 := Lib.hid (grownBy_trans G1.out g1); clear hw h1 g1)
      | (refine (expect_yes H3.out (by decide) i5 i6 q6).mono ?_; rintro e' w4 ⟨rfl, hw⟩; obtain ⟨h1, g1⟩ := went_lit hw q7; have H4 := Lib.hid h1; have G4 := Lib.hid (grownBy_trans G3.out g1); have O4 := Lib.hid (O3.out.kept g1 (fun i hi => by cases hi; have := G2.out.size; omega)); clear hw h1 g1)))
    | (go_at_call 132; go_must (refine (several_form n H2.out q4 hn hz hn9 q5).mono ?_; rintro e' w3 ⟨v, rfl, ho, h1, g1⟩; have H3 := Lib.hid h1; have G3 := Lib.hid (grownBy_trans G2.out g1); have O3 := Lib.hid ho; clear h1 g1 ho)))
  go_ret2
  exact ⟨v, rfl, O4.out.from G2.out.size, H4.out, G4.out⟩
end Go.Proofs.YtblpknkgjkbacaaGreatDoor
