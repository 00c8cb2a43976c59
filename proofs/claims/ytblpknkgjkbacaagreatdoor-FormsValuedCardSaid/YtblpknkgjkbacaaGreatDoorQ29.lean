/-
 nest.Check says what is wrong with a program, for every program. The steps of the text are read, and the program. The program of the text is read.
-/
import Derived.Deep.AppendLies
import Derived.Test.YtblpknkgjkbacaaGreatDoorQ12
import Derived.Test.YtblpknkgjkbacaaGreatDoorQ20
import Derived.Test.YtblpknkgjkbacaaGreatDoorQ27
import Derived.Test.YtblpknkgjkbacaaGreatDoorQ28
namespace Go.Proofs.YtblpknkgjkbacaaGreatDoor
set_option linter.unusedVariables false
open Go.RowKit Go.Maps Go.WideMaps
variable {w w' : World}
/-- How many sizes an array has, by the table. -/
def dimX (D : Table) (n : ByteArray) : Int := match D.atKey (strL n) (lit64 0) with
  | .lit (.int _ z) => z
  | _ => 0
theorem tab_dimX {D : Table} {X : ByteArray → Int} (h : TabIs D X) : TabIs D (dimX D) := by
  have e : X = dimX D := funext fun n => by
    unfold dimX
    rw [h.at_ n]
    rfl
  rw [← e]
  exact h
/-- Nothing. -/
def noB : ByteArray → Bool := fun _ => false
/-- What is wrong with a program. -/
def progE (arrays : List ArrayD) (steps : List StepD) : Int :=
  if 20 < arrays.length then 2
  else if (arraysR (.map []) 0 arrays).1 ≠ 0 then (arraysR (.map []) 0 arrays).1
  else if (stepsR (arraysR (.map []) 0 arrays).2.1 (dimX (arraysR (.map []) 0 arrays).2.1) 1 noB 0 noB steps).1 ≠ 0 then (stepsR (arraysR (.map []) 0 arrays).2.1 (dimX (arraysR (.map []) 0 arrays).2.1) 1 noB 0 noB steps).1
  else if 300 < (stepsR (arraysR (.map []) 0 arrays).2.1 (dimX (arraysR (.map []) 0 arrays).2.1) 1 noB 0 noB steps).2.1 then 2 else 0
/-- A program in memory: its arrays, its steps. -/
def ProgAt (w : World) (va vs : Value) (arrays : List ArrayD) (steps : List StepD) : Prop :=
  ArraysAt w va arrays ∧ ∃ p cap, vs = .slice p steps.length cap ∧ steps.length ≤ 1000000 ∧ StepL w p 0 steps
set_option maxRecDepth 100000 in
set_option maxHeartbeats 8000000 in
theorem check_any (arrays : List ArrayD) (steps : List StepD) (va vs : Value) (w : World) (h : ProgAt w va vs arrays steps) :
    Calls Tryz.prog 62 #[.agg #[va, vs]] w (Gives (.int .i64 (progE arrays steps)) w) := by
  obtain ⟨ha, ps, cs, rfl, hsl, hst⟩ := h
  have HA := Lib.hid ha
  have HS := Lib.hid hst
  obtain ⟨pa, ca, rfl, hal, -⟩ := ha
  clear hst
  have HG := Lib.hid (World.grownBy_alloc w (.cells #[.slice pa arrays.length ca, .slice ps steps.length cs] 88) none)
  have HB := Lib.hid (heap_alloc_new w (.cells #[.slice pa arrays.length ca, .slice ps steps.length cs] 88))
  go_enter Tryz.func62, Tryz.ntmps62
  go_upto_region 1 with fail
  generalize w.alloc (.cells #[.slice pa arrays.length ca, .slice ps steps.length cs] 88) = w1 at *
  obtain ⟨x0, x1, xf⟩ := cell_of_two HB.out
  have HA1 := Lib.hid (HA.out.kept HG.out)
  have HS1 := Lib.hid (stepL_safe (Safe.of_grown HG.out) _ _ _ HS.out)
  by_cases h20 : 20 < arrays.length
  · have h20i : (20 : Int) < (arrays.length : Int) := by omega
    have HR : Hid (progE arrays steps = 2) := by show _ = _; unfold progE; rw [if_pos h20]
    go_wp2
    go_ret
    exact ⟨by rw [HR.out]; rfl, HG.out⟩
  have h20i : ¬ (20 : Int) < (arrays.length : Int) := by omega
  have HR1 : Hid (progE arrays steps = if (arraysR (.map []) 0 arrays).1 ≠ 0 then (arraysR (.map []) 0 arrays).1
      else if (stepsR (arraysR (.map []) 0 arrays).2.1 (dimX (arraysR (.map []) 0 arrays).2.1) 1 noB 0 noB steps).1 ≠ 0 then (stepsR (arraysR (.map []) 0 arrays).2.1 (dimX (arraysR (.map []) 0 arrays).2.1) 1 noB 0 noB steps).1
      else if 300 < (stepsR (arraysR (.map []) 0 arrays).2.1 (dimX (arraysR (.map []) 0 arrays).2.1) 1 noB 0 noB steps).2.1 then 2 else 0) := by show _ = _; unfold progE; rw [if_neg h20]
  generalize hAR : arraysR (.map []) 0 arrays = A at *
  obtain ⟨eA, DA, cA⟩ := A
  simp only at HR1
  go_upto_region 4 with (go_at_call 80; go_must (refine (newChecker_any _).mono ?_; rintro e w2 ⟨C, Bd, Bs, Bl, rfl, hC, hBd, hBs, hBl, hen, hg⟩; have HN := Lib.hid hen; have HG2 := Lib.hid hg; clear hen hg))
  have HB2 := Lib.hid (heap_keep HB.out HG2.out (by simp))
  obtain ⟨x0, x1, xf⟩ := cell_of_two HB2.out
  have hCw2 : C < w2.heap.size := (Array.getElem?_eq_some_iff.1 HN.out.chk).1
  have HBw := (Array.getElem?_eq_some_iff.1 HB.out).1
  go_upto_region 5 with (go_at_call 81; go_must (refine (chkArrays_any arrays _ w1 _ (.map []) 0 HN.out (by omega) HG2.out hC hBd HA1.out (by omega) (by omega)).mono ?_; rintro e w3 ⟨rfl, hb3, he3⟩; rw [hAR] at he3 ⊢; have B3 := Lib.hid hb3; have HE3 := Lib.hid he3; clear hb3 he3))
  have HG3 := Lib.hid (B3.out.old HG2.out hC hBd hBd)
  have HB3 := Lib.hid (heap_keep HB.out HG3.out (by simp))
  clear x0 x1 xf
  obtain ⟨x0, x1, xf⟩ := cell_of_two HB3.out
  by_cases hA0 : eA = 0
  case neg =>
    have hA0b : (eA != 0) = true := by simpa using hA0
    have HR := Lib.hid (HR1.out.trans (if_pos hA0))
    go_wp2
    go_ret
    exact ⟨by rw [HR.out]; rfl, grownBy_trans HG.out HG3.out⟩
  case pos =>
  subst hA0
  have HR2 := Lib.hid (HR1.out.trans (if_neg (by simp)))
  clear HR1
  obtain ⟨kd, hdm, -⟩ := HE3.out.dims
  obtain ⟨Xd, htab⟩ := HE3.out.tab
  have HE4 : Hid (EnvS C Bd Bs Bl kd cA DA noB noB 0 w3) := ⟨HE3.out.chk, hdm, HE3.out.sts, HE3.out.loops, HE3.out.ne⟩
  have HBo := Lib.hid (bodyGood (C := C) (Bd := Bd) (Bs := Bs) (Bl := Bl) (kd := kd) (cells := cA) (tab_dimX htab) steps)
  have HS3 := Lib.hid (stepL_safe (Safe.of_grown HG3.out) _ _ _ HS1.out)
  clear hdm htab HE3 hAR
  generalize hSR : stepsR DA (dimX DA) 1 noB 0 noB steps = R at *
  obtain ⟨eS, nS, SS⟩ := R
  simp only at HR2
  go_upto_region 8 with (go_at_call 83; go_must (refine (HBo.out 1 noB noB 0 _ ps cs HE4.out (by omega) (by omega) hsl HS3.out).mono ?_; rintro e w4 ⟨rfl, hb4, he4⟩; rw [hSR] at he4 ⊢; have B4 := Lib.hid hb4; have HE5 := Lib.hid he4; clear hb4 he4))
  have HG4 := Lib.hid (B4.out.old HG3.out hC hBs hBl)
  obtain ⟨c0, c1, c2, c3, c4, cf⟩ := HE5.out.chk.cells
  clear hSR HBo
  by_cases hS0 : eS = 0
  case neg =>
    have hS0b : (eS != 0) = true := by simpa using hS0
    have HR := Lib.hid (HR2.out.trans (if_pos hS0))
    go_wp2
    go_ret
    exact ⟨by rw [HR.out]; rfl, grownBy_trans HG.out HG4.out⟩
  case pos =>
  subst hS0
  have HR3 := Lib.hid (HR2.out.trans (if_neg (by simp)))
  by_cases h3 : 300 < nS
  · have HR := Lib.hid (HR3.out.trans (if_pos h3))
    go_wp2
    go_ret
    exact ⟨by rw [HR.out]; rfl, grownBy_trans HG.out HG4.out⟩
  · have HR := Lib.hid (HR3.out.trans (if_neg h3))
    go_wp2
    go_ret
    exact ⟨by rw [HR.out]; rfl, grownBy_trans HG.out HG4.out⟩
end Go.Proofs.YtblpknkgjkbacaaGreatDoor
namespace Go.Proofs.YtblpknkgjkbacaaGreatDoor
open Go.RowKit Go.Maps Go.WideMaps
variable {w w' : World} {R st b k a e : Nat}
theorem Tryz.infoStep3 : (Tryz.prog.info? 96).map (fun i => (i.zero, i.size, i.bytes)) = some (some (.agg #[.int .i64 0, .string ByteArray.empty, .slice none 0 0, .slice none 0 0, .slice none 0 0, .slice none 0 0, .string ByteArray.empty, .slice none 0 0, .int .i64 0, .int .i64 0, .int .i64 0, .slice none 0 0, .string ByteArray.empty, .slice none 0 0, .slice none 0 0]), 15, 272) := by kernel_rfl
def stepCells (q1 g : Nat) : List Value := (stepL q1 g).toList
/-- The steps. -/
def StepsLit (R : Nat) (w : World) (e : Ending) (w' : World) : Prop := ∃ q1 q g h cap, e = .returned (.slice (some ⟨h, 0, none⟩) 1 cap) ∧ w.heap.size ≤ g ∧ w'.ownsRow w.heap.size 96 15 (.slice (some ⟨h, 0, none⟩) 1 cap) 1 (stepCells q1 g) ∧ ArgsAt w' g q ∧ OneForm w w' 1 (.slice (some ⟨q1, 0, none⟩) 1 1) ∧ OneForm w w' 0 (.slice (some ⟨q, 0, none⟩) 1 1) ∧ RdAt w' R lit 0 31 31 ∧ w.grownBy w' (some R)
set_option maxRecDepth 100000 in
set_option maxHeartbeats 2000000 in
theorem steps_lit (h : RdAt w R lit 3 12 13) :
    Calls Tryz.prog 79 #[.pointer (some ⟨R, 0, none⟩)] w (StepsLit R w) := by
  have hlt := h.lt
  have H := Lib.hid h
  obtain ⟨j0, hj0, hy0, hy1, hy2⟩ := info_parts Tryz.infoStep3
  clear h
  have T1 := ()
  go_enter Tryz.func79, Tryz.ntmps79
  go_upto_region 3 with fail
  refine wp_loop_rounds 2 ?_
  rw [rounds_succ]
  go_upto_region 8 with (first
    | (go_at_call 77; go_must (first
      | (clear T1; refine (is_any H.out (by decide) (by decide) (by decide) false (p := ⟨#[102, 111, 114]⟩) (by decide +kernel)).mono ?_; rintro e' w1 ⟨rfl, hg⟩; have H1 := Lib.hid (H.out.kept hg (by simp)); have G1 := Lib.hid (grownBy_any (some R) hg); clear hg)
      | (refine (is_any H1.out (by decide) (by decide) (by decide) false (p := ⟨#[105, 102]⟩) (by decide +kernel)).mono ?_; rintro e' w2 ⟨rfl, hg⟩; have H2 := Lib.hid (H1.out.kept hg (by simp)); have G2 := Lib.hid (grownBy_trans G1.out (grownBy_any (some R) hg)); obtain ⟨c0, c1, c2, c3, c4, cf⟩ := H2.out.cells; clear hg))))
  have hs2 := G2.out.size
  go_wp2_with (first
    | (go_at_call 107; go_must (refine (statement_lit H2.out).mono ?_; rintro e' w3 ⟨q1, q, g, rfl, hg, hA, hO, hP, h3, g3⟩; have H3 := Lib.hid h3; have G3 := Lib.hid (grownBy_trans G2.out g3); have A3 := Lib.hid hA; have O3 := Lib.hid hO; have P3 := Lib.hid hP; have hw3 := G3.out.size; clear h3 g3 hA hO hP; unfold stepL))
    | (at_builtin; go_must (refine wpList_append_lies _ rfl _ _ 86 rfl w.heap.size 96 j0 (.agg #[.int .i64 0, .string ByteArray.empty, .slice none 0 0, .slice none 0 0, .slice none 0 0, .slice none 0 0, .string ByteArray.empty, .slice none 0 0, .int .i64 0, .int .i64 0, .int .i64 0, .slice none 0 0, .string ByteArray.empty, .slice none 0 0, .slice none 0 0]) 15 272 Tryz.underlying86 hj0 hy0 hy1 hy2 rfl (by decide) _ 0 [] rfl (World.ownsRow_nil _ _ _ _) ⟨w3.heap.size, 0, none⟩ 1 1 [.int .i64 3, .string ⟨#[115]⟩, .slice none 0 0, .slice none 0 0, .slice none 0 0, .slice none 0 0, .string ⟨#[97]⟩, .slice (some ⟨q1, 0, none⟩) 1 1, .int .i64 4, .int .i64 0, .int .i64 0, .slice none 0 0, .string ⟨#[]⟩, .slice none 0 0, .slice (some ⟨g, 0, none⟩) 2 2] rfl rfl news_at (by simp [Value.oneCell']) (by decide) (by unfold maxLen; omega) (by omega) (by simp; omega) (w3.heap.size + 1) (by simp) ?_; intro g' ncap w7 hown7 hgrow7 hat _; have O7 := Lib.hid hown7; have G7 := Lib.hid hgrow7; clear hown7 hgrow7 hat)))
  have g7 : (w3.alloc (.cells #[.int .i64 3, .string ⟨#[115]⟩, .slice none 0 0, .slice none 0 0, .slice none 0 0, .slice none 0 0, .string ⟨#[97]⟩, .slice (some ⟨q1, 0, none⟩) 1 1, .int .i64 4, .int .i64 0, .int .i64 0, .slice none 0 0, .string ⟨#[]⟩, .slice none 0 0, .slice (some ⟨g, 0, none⟩) 2 2] 96)).grownBy w7 none := G7.out
  have g37 := grownBy_trans (World.grownBy_alloc w3 (.cells #[.int .i64 3, .string ⟨#[115]⟩, .slice none 0 0, .slice none 0 0, .slice none 0 0, .slice none 0 0, .string ⟨#[97]⟩, .slice (some ⟨q1, 0, none⟩) 1 1, .int .i64 4, .int .i64 0, .int .i64 0, .slice none 0 0, .string ⟨#[]⟩, .slice none 0 0, .slice (some ⟨g, 0, none⟩) 2 2] 96) none) g7
  have H7 := Lib.hid (H3.out.kept g37 (by simp))
  have K7 := Lib.hid (grownBy_trans G3.out (grownBy_any (some R) g37))
  have A7 : Hid (ArgsAt w7 g q) := heap_keep A3.out g37 (by simp)
  have OO7 := Lib.hid ((O3.out.from hs2).other g37 (by simp))
  have PP7 := Lib.hid ((P3.out.from hs2).other g37 (by simp))
  clear g7 g37 G7 c0 c1 c2 c3 c4 cf H H1 H2 G1 G2 H3 G3 A3 O3 P3
  rw [rounds_succ]
  have T2 := ()
  go_upto_region 7 with (go_at_call 77; go_must (first
      | (clear T2; refine (is_any H7.out (by decide) (by decide) (by decide) false (p := ⟨#[102, 111, 114]⟩) (by decide +kernel)).mono ?_; rintro e' w8 ⟨rfl, hg⟩; have H8 := Lib.hid (H7.out.kept hg (by simp)); have K8 := Lib.hid hg; clear hg)
      | (refine (is_any H8.out (by decide) (by decide) (by decide) false (p := ⟨#[105, 102]⟩) (by decide +kernel)).mono ?_; rintro e' w9 ⟨rfl, hg⟩; have H9 := Lib.hid (H8.out.kept hg (by simp)); have K9 := Lib.hid (grownBy_trans K8.out hg); obtain ⟨c0, c1, c2, c3, c4, cf⟩ := H9.out.cells; clear hg)))
  go_wp2_with fail
  go_ret
  exact ⟨q1, q, g, g', ncap, rfl, by omega, owns_kept O7.out K9.out, heap_keep A7.out K9.out (by simp), OO7.out.other K9.out (by simp), PP7.out.other K9.out (by simp), H9.out, grownBy_trans K7.out (grownBy_any _ K9.out)⟩
end Go.Proofs.YtblpknkgjkbacaaGreatDoor
namespace Go.Proofs.YtblpknkgjkbacaaGreatDoor
open Go.RowKit Go.Maps Go.WideMaps
variable {w w' : World} {R st b k a e : Nat}
theorem Tryz.infoArray3 : (Tryz.prog.info? 129).map (fun i => (i.zero, i.size, i.bytes)) = some (some (.agg #[.string ByteArray.empty, .slice none 0 0]), 2, 40) := by kernel_rfl
theorem Tryz.infoProgram : (Tryz.prog.info? 88).map (·.size) = some 2 := by kernel_rfl
/-- The program of the text: its arrays, its steps. -/
structure ProgLit (w0 w : World) (av sv : Value) : Prop where
  arrays : ∃ g cap b, av = .slice (some ⟨g, 0, none⟩) 1 cap ∧ w.ownsRow w0.heap.size 129 2 av 1 [.string ⟨#[97]⟩, .slice (some ⟨b, 0, none⟩) 1 1] ∧ w0.heap.size ≤ b ∧ w.heap[b]? = some (.cells #[.int .i64 2] 3 (0, 0))
  steps : ∃ q1 q g h cap, sv = .slice (some ⟨h, 0, none⟩) 1 cap ∧ w0.heap.size ≤ g ∧ w.ownsRow w0.heap.size 96 15 sv 1 (stepCells q1 g) ∧ ArgsAt w g q ∧ OneForm w0 w 1 (.slice (some ⟨q1, 0, none⟩) 1 1) ∧ OneForm w0 w 0 (.slice (some ⟨q, 0, none⟩) 1 1)
set_option maxRecDepth 100000 in
set_option maxHeartbeats 4000000 in
theorem program_lit (h : RdAt w R lit 4 0 5) :
    Calls Tryz.prog 61 #[.pointer (some ⟨R, 0, none⟩)] w (fun e' w' => ∃ av sv, e' = .returned (.agg #[av, sv]) ∧ ProgLit w w' av sv ∧ RdAt w' R lit 0 31 31 ∧ w.grownBy w' (some R)) := by
  have hlt := h.lt
  have H := Lib.hid h
  obtain ⟨j0, hj0, hy0, hy1, hy2⟩ := info_parts Tryz.infoArray3
  clear h
  go_enter Tryz.func61, Tryz.ntmps61
  go_upto_region 2 with fail
  have S0 := Lib.hid (Bx.start H.out #[.slice none 0 0, .slice none 0 0] #[.slice none 0 0, .slice none 0 0] 88 _ rfl)
  clear H
  generalize (w.alloc (.cells #[.slice none 0 0, .slice none 0 0] 88)).alloc (.cells #[.slice none 0 0, .slice none 0 0] 88) = v0 at *
  generalize hY : w.heap.size + 1 = Y at *
  refine wp_loop_rounds 2 ?_
  rw [rounds_succ]
  go_upto_region 3 with (go_at_call 77; go_must (refine (is_any S0.out.rd (by decide) (by decide) (by decide) true (p := ⟨#[97, 114, 114, 97, 121]⟩) (by decide +kernel)).mono ?_; rintro e' w1 ⟨rfl, hg⟩; have S1 := Lib.hid (S0.out.step (S0.out.rd.kept hg (by simp)) (grownBy_any (some R) hg)); obtain ⟨y0, y1, yf⟩ := cell_of_two S1.out.y; clear hg))
  have d0 : w1.drew.cell? ⟨Y, 0, none⟩ = some (.slice none 0 0) := y0
  have S1d := Lib.hid (S1.out.step (S1.out.rd.kept (grown_drew w1 none) (by simp)) (grown_drew w1 (some R)))
  have n1 := S1.out.ne
  have HS0 : Hid ((fun W : World => W.cell? ⟨Y, 0, none⟩ = some (.slice none 0 0)) w1.drew) := d0
  refine region_late (n := 6) (S := fun W : World => W.cell? ⟨Y, 0, none⟩ = some (.slice none 0 0)) (by kernel_rfl) ⟨by kernel_rfl, by kernel_rfl, by kernel_rfl, by decide⟩ ?_
  refine late_take (i := 0) (v := ?va_0) ⟨by kernel_rfl, by kernel_rfl, by kernel_rfl, by decide⟩ rfl (by decide +kernel) (by decide +kernel) (by decide +kernel) (fun _ _ _ h => h) (Or.inl ⟨by rfl, ?ha_0⟩) HS0.out ?ra_0
  case ha_0 =>
    intro W hW
    go_simp
    with_reducible rfl
  go_frame
  refine late_take (i := 1) (v := ?va_1) ⟨by kernel_rfl, by kernel_rfl, by kernel_rfl, by decide⟩ rfl (by decide +kernel) (by decide +kernel) (by decide +kernel) (fun _ _ _ h => h) (Or.inl ⟨by rfl, ?ha_1⟩) HS0.out ?ra_1
  case ha_1 =>
    intro W hW
    go_simp
    with_reducible rfl
  go_frame
  refine late_take (i := 2) (v := ?va_2) ⟨by kernel_rfl, by kernel_rfl, by kernel_rfl, by decide⟩ rfl (by decide +kernel) (by decide +kernel) (by decide +kernel) (fun _ _ _ h => h) (Or.inl ⟨by rfl, ?ha_2⟩) HS0.out ?ra_2
  case ha_2 =>
    intro W hW
    go_simp
    with_reducible rfl
  go_frame
  refine late_one (i := 3) rfl (by kernel_rfl) (by kernel_rfl) (fun K hK => ?_)
  have HK := Lib.hid hK
  clear hK
  refine op_enter (by rfl) 78 #[.pointer (some ⟨R, 0, none⟩)] (by kernel_rfl) ((array_lit S1d.out.rd).mono ?_)
  rintro e' w2 ⟨b, rfl, hb, hB, h2, g2⟩
  have S2 := Lib.hid (S1d.out.step h2 g2)
  have hs12 : w1.heap.size ≤ w2.heap.size := g2.size
  have B2 := Lib.hid hB
  obtain ⟨y0, y1, yf⟩ := cell_of_two S2.out.y
  refine ⟨_, rfl, HK.out _ _ y0 ?_⟩
  clear HK h2 g2 hB
  go_frame
  refine late_one (i := 4) rfl (by kernel_rfl) (by kernel_rfl) (fun K hK => ?_)
  have HK := Lib.hid hK
  clear hK
  go_simp
  refine HK.out _ _ ((World.grownBy_alloc _ _ none).cell y0 (by simp)) ?_
  clear HK
  refine late_one (i := 5) rfl (by kernel_rfl) (by kernel_rfl) (fun K hK => ?_)
  have HK := Lib.hid hK
  clear hK
  refine step_append_lies _ (by rfl) _ _ 85 (by rfl) w1.heap.size 129 j0 (.agg #[.string ByteArray.empty, .slice none 0 0]) 2 40 Tryz.underlying85 hj0 hy0 hy1 hy2 (by rfl) (by decide) _ 0 [] (by rfl) (World.ownsRow_nil _ _ _ _) ⟨w2.heap.size, 0, none⟩ 1 1 [.string ⟨#[97]⟩, .slice (some ⟨b, 0, none⟩) 1 1] (by rfl) (by rfl) news_at (by simp [Value.oneCell']) (by decide) (by unfold maxLen; omega) (by omega) (by simp; omega) (w2.heap.size + 1) (by simp) ?_
  intro g ncap w3 hown hgrow hat _
  have O3 := Lib.hid hown
  have g3 : (w2.alloc (.cells #[.string ⟨#[97]⟩, .slice (some ⟨b, 0, none⟩) 1 1] 129)).grownBy w3 none := hgrow
  have g23 := grownBy_trans (World.grownBy_alloc w2 (.cells #[.string ⟨#[97]⟩, .slice (some ⟨b, 0, none⟩) 1 1] 129) none) g3
  have S3 := Lib.hid (S2.out.step (S2.out.rd.kept g23 (by simp)) (grownBy_any (some R) g23))
  have B3 := Lib.hid (heap_keep B2.out g23 (by simp))
  obtain ⟨y0, y1, yf⟩ := cell_of_two S3.out.y
  refine HK.out _ _ y0 ?_
  clear hown hgrow hat g3 g23 HK
  refine late_done (by decide +kernel) ?_
  simp only [List.drop_succ_cons, List.drop_zero]
  go_wp2_with fail
  have S4 := Lib.hid (S3.out.put (grown_set w3 Y 0 (.slice (some ⟨g, 0, none⟩) 1 ncap)) (two_set0 S3.out.y _))
  have hbY : Y < b := Nat.lt_of_lt_of_le n1.2.2 hb
  have O4 := Lib.hid (owns_under O3.out (grown_set w3 Y 0 (.slice (some ⟨g, 0, none⟩) 1 ncap)) (fun i hi => by cases hi; exact n1.2.2))
  have B4 := Lib.hid (heap_keep B3.out (grown_set w3 Y 0 (.slice (some ⟨g, 0, none⟩) 1 ncap)) (by simp; omega))
  clear y0 y1 yf S0 S1 S1d S2 S3 O3 B2 B3 d0 HS0
  rw [rounds_succ]
  generalize w3.setCell ⟨Y, 0, none⟩ (.slice (some ⟨g, 0, none⟩) 1 ncap) = w4 at *
  go_upto_region 4 with (go_at_call 77; go_must (refine (is_any S4.out.rd (by decide) (by decide) (by decide) false (p := ⟨#[97, 114, 114, 97, 121]⟩) (by decide +kernel)).mono ?_; rintro e' w5 ⟨rfl, hg⟩; have S5 := Lib.hid (S4.out.step (S4.out.rd.kept hg (by simp)) (grownBy_any (some R) hg)); have O5 := Lib.hid (owns_kept O4.out hg); have B5 := Lib.hid (heap_keep B4.out hg (by simp)); clear hg))
  go_upto_region 5 with (go_at_call 79; go_must (refine (steps_lit S5.out.rd).mono ?_; rintro e' w6 ⟨q1, q, g1, h1, cap1, rfl, hg1, hrow, hA, hO, hP, h6, g6⟩; have n5 := S5.out.ne; have S6 := Lib.hid (S5.out.step h6 g6); have O6 := Lib.hid (owns_under O5.out g6 (fun i hi => by cases hi; omega)); have B6 := Lib.hid (heap_keep B5.out g6 (by simp; omega)); have A6 : Hid (ArgsAt w6 g1 q) := hA; have R6 := Lib.hid hrow; have U6 := Lib.hid hO; have V6 := Lib.hid hP; obtain ⟨y0, y1, yf⟩ := cell_of_two S6.out.y; clear hrow hA hO hP h6 g6))
  have S7 := Lib.hid (S6.out.put (grown_set w6 Y 1 (.slice (some ⟨h1, 0, none⟩) 1 cap1)) (two_set1 S6.out.y _))
  have g7 := grown_set w6 Y 1 (.slice (some ⟨h1, 0, none⟩) 1 cap1)
  have hq1 := U6.out
  have hq0 := V6.out
  have O7 := Lib.hid (owns_under O6.out g7 (fun i hi => by cases hi; exact n1.2.2))
  have B7 := Lib.hid (heap_keep B6.out g7 (by simp; omega))
  have A7 : Hid (ArgsAt _ g1 q) := heap_keep A6.out g7 (by simp; omega)
  have R7 := Lib.hid (owns_under R6.out g7 (fun i hi => by cases hi; exact n5.2.2))
  have U7 := Lib.hid ((U6.out.kept g7 (fun i hi => by cases hi; exact n5.2.2)))
  have V7 := Lib.hid ((V6.out.kept g7 (fun i hi => by cases hi; exact n5.2.2)))
  clear y0 y1 yf g7 hq1 hq0 S6 O6 B6 A6 R6 U6 V6
  generalize w6.setCell ⟨Y, 1, none⟩ (.slice (some ⟨h1, 0, none⟩) 1 cap1) = w7 at *
  obtain ⟨y0, y1, yf⟩ := cell_of_two S7.out.y
  obtain ⟨x0, x1, xf⟩ := cell_of_two S7.out.x
  go_wp2_with fail
  obtain ⟨f1, f2⟩ := two_set S7.out.x (.slice (some ⟨g, 0, none⟩) 1 ncap) (.slice (some ⟨h1, 0, none⟩) 1 cap1)
  have hw5 : w.heap.size ≤ w5.heap.size := S5.out.grown.size
  have hX1 : w.heap.size < w1.heap.size := by omega
  have hX5 : w.heap.size < w5.heap.size := by omega
  exact bodyPost_ret (results_cell_row rfl _ _ w.heap.size _ _ _ _ rfl f1 Tryz.underlying88 rfl Tryz.infoProgram) rfl
    ⟨_, _, rfl, ⟨⟨g, ncap, b, rfl, owns_lower (owns_under O7.out f2 (fun i hi => by cases hi; exact hX1)) (by omega), by omega, heap_keep B7.out f2 (by simp; omega)⟩,
      ⟨q1, q, g1, h1, cap1, rfl, by omega, owns_lower (owns_under R7.out f2 (fun i hi => by cases hi; exact hX5)) hw5, heap_keep A7.out f2 (by simp; omega), (U7.out.kept f2 (fun i hi => by cases hi; exact hX5)).from hw5, (V7.out.kept f2 (fun i hi => by cases hi; exact hX5)).from hw5⟩⟩,
      S7.out.rd.kept f2 (by simp; omega), grown_new S7.out.grown f2 (fun i hi => by cases hi; exact Nat.le_refl _)⟩
end Go.Proofs.YtblpknkgjkbacaaGreatDoor
