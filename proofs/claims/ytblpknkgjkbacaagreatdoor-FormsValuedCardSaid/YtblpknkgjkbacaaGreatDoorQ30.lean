/-
 The program of the text, as a program in memory; nothing is wrong with it. nest.Read of the text; the law's guard holds.
-/
import Derived.Test.YtblpknkgjkbacaaGreatDoorQ29
namespace Go.Proofs.YtblpknkgjkbacaaGreatDoor
set_option linter.unusedVariables false
open Go.RowKit Go.Maps Go.WideMaps
variable {w w' w0 : World}
/-- The program of the text. -/
def litA : List ArrayD := [(⟨#[97]⟩, [2])]
def litX : ExprD := .mk 4 0 0 [] ⟨#[]⟩ [] [.mk 3 0 0 [] ⟨#[97]⟩ [(0, [])] [], .mk 1 7 0 [] ⟨#[]⟩ [] []]
def litS : List StepD := [.mk 3 ⟨#[115]⟩ [] [] [] [] ⟨#[97]⟩ [(1, [])] litX]
theorem terms_nil (w : World) (p : Option Addr) (c : Nat) : TermsAt w (.slice p 0 c) [] := ⟨p, c, rfl, Nat.zero_le _, fun j t h => by simp at h⟩
theorem conds_nil (w : World) (p : Option Addr) (c : Nat) : CondsAt w (.slice p 0 c) [] := ⟨p, c, rfl, Nat.zero_le _, fun j t h => by simp at h⟩
theorem bounds_nil (w : World) (p : Option Addr) (c : Nat) : BoundsAt w (.slice p 0 c) [] := ⟨p, c, rfl, Nat.zero_le _, fun j t h => by simp at h⟩
theorem cell_at {g j n : Nat} {cs : Array Value} {T : TypeId} {fr : Nat × Nat} {v : Value} (h : w.heap[g]? = some (.cells cs T fr)) (hv : cs[j]? = some v) : w.cell? ⟨g, j, none⟩ = some v := by
  unfold World.cell?
  rw [h]
  exact hv
theorem conds_one {n : Int} {v : Value} (h : OneForm w0 w n v) (hn : -9223372036854775808 ≤ n ∧ n ≤ 9223372036854775807) : CondsAt w v [(n, [])] := by
  obtain ⟨q, p, cap, rfl, h1, h2⟩ := h
  refine ⟨_, _, rfl, by simp, fun j f hj => ?_⟩
  match j with
  | 0 =>
    obtain rfl := Option.some.inj hj
    exact ⟨q, 0, _, rfl, cell_at (n := 0) h2 rfl, cell_at (n := 0) h2 rfl, terms_nil _ _ _, hn⟩
  | j + 1 => simp at hj
theorem add_zero' (g j : Nat) : (⟨g, 0, none⟩ : Addr).add j = ⟨g, j, none⟩ := by
  unfold Addr.add
  split <;> simp_all
theorem prog_of_lit {av sv : Value} (h : ProgLit w0 w av sv) : ProgAt w av sv litA litS := by
  obtain ⟨⟨g, cap, b, rfl, ho, hb, hbx⟩, q1, q, ga, hh, cap2, rfl, hga, hrow, hA, hO, hP⟩ := h
  refine ⟨⟨_, _, rfl, by simp [litA], fun j a hj => ?_⟩, _, _, rfl, by simp [litS], ?_⟩
  · match j with
    | 0 =>
      obtain rfl := Option.some.inj hj
      have c0 := ho.cells rfl 0 _ rfl
      have c1 := ho.cells rfl 1 _ rfl
      rw [add_zero'] at c0 c1
      refine ⟨g, 0, _, rfl, c0, c1, by decide, _, _, rfl, by simp, fun j x hj => ?_⟩
      match j with
      | 0 =>
        obtain rfl := Option.some.inj hj
        exact ⟨b, 0, rfl, by omega, cell_at (n := 0) hbx rfl⟩
      | j + 1 => simp at hj
    | j + 1 => simp [litA] at hj
  · have hc : ∀ i v, (stepCells q1 ga)[i]? = some v → w.cell? ⟨hh, i, none⟩ = some v := fun i v hv => by
      have := hrow.cells rfl i v hv
      rwa [add_zero'] at this
    unfold litS StepL
    refine ⟨⟨hh, 0, stepCells q1 ga, rfl, fun i v hv => by simpa using hc i v hv, ?_⟩, by unfold StepL; trivial⟩
    unfold StepF
    refine ⟨.slice none 0 0, .slice none 0 0, .slice none 0 0, none, 0, .slice (some ⟨q1, 0, none⟩) 1 1, .int .i64 4, .int .i64 0, .int .i64 0, .slice none 0 0, .string ⟨#[]⟩, .slice none 0 0, .slice (some ⟨ga, 0, none⟩) 2 2, rfl, by omega, by decide, bounds_nil _ _ _, bounds_nil _ _ _, conds_nil _ _ _, by decide, conds_one hO (by omega), ?_, by simp, by unfold StepL; trivial⟩
    unfold litX ExprF
    refine ⟨⟨rfl, by omega, by omega⟩, ⟨rfl, by omega, by omega⟩, ⟨rfl, by omega, by omega⟩, terms_nil _ _ _, ⟨rfl, by decide⟩, conds_nil _ _ _, _, _, rfl, by simp, ?_⟩
    unfold ArgsAt at hA
    have ha : ∀ i v, (#[.int .i64 3, .int .i64 0, .int .i64 0, .slice none 0 0, .string ⟨#[97]⟩, .slice (some ⟨q, 0, none⟩) 1 1, .slice none 0 0, .int .i64 1, .int .i64 7, .int .i64 0, .slice none 0 0, .string ⟨#[]⟩, .slice none 0 0, .slice none 0 0] : Array Value)[i]? = some v → w.cell? ⟨ga, i, none⟩ = some v := fun i v hv => cell_at (n := 0) hA hv
    unfold ExprL
    refine ⟨⟨ga, 0, _, _, _, _, _, _, _, rfl, ⟨ha 0 _ rfl, ha 1 _ rfl, ha 2 _ rfl, ha 3 _ rfl, ha 4 _ rfl, ha 5 _ rfl, ha 6 _ rfl⟩, ?_⟩, ?_⟩
    · unfold ExprF
      exact ⟨⟨rfl, by omega, by omega⟩, ⟨rfl, by omega, by omega⟩, ⟨rfl, by omega, by omega⟩, terms_nil _ _ _, ⟨rfl, by decide⟩, conds_one hP (by omega), _, _, rfl, by simp, by unfold ExprL; trivial⟩
    · unfold ExprL
      refine ⟨⟨ga, 0, _, _, _, _, _, _, _, rfl, ⟨ha 7 _ rfl, ha 8 _ rfl, ha 9 _ rfl, ha 10 _ rfl, ha 11 _ rfl, ha 12 _ rfl, ha 13 _ rfl⟩, ?_⟩, by unfold ExprL; trivial⟩
      unfold ExprF
      exact ⟨⟨rfl, by omega, by omega⟩, ⟨rfl, by omega, by omega⟩, ⟨rfl, by omega, by omega⟩, terms_nil _ _ _, ⟨rfl, by decide⟩, conds_nil _ _ _, _, _, rfl, by simp, by unfold ExprL; trivial⟩
set_option maxRecDepth 100000 in
theorem lit_good : progE litA litS = 0 := by decide +kernel
end Go.Proofs.YtblpknkgjkbacaaGreatDoor
namespace Go.Proofs.YtblpknkgjkbacaaGreatDoor
open Go.RowKit Go.Maps Go.WideMaps
variable {w w' w0 : World}
theorem Tryz.infoProgram2 : (Tryz.prog.info? 88).map (·.size) = some 2 := by kernel_rfl
theorem results_prog3 {fn : Func} {p u v : Tmp} (h : fn.results = #[.cell p 88, .tmp u, .tmp v]) (tmps : Array Value) (w : World) (g : Nat) (t : TypeId) (a b : Value) (fr : Nat × Nat)
    (hp : tmps.getD p undef = .pointer (some ⟨g, 0, none⟩)) (hg : w.heap[g]? = some (.cells #[a, b] t fr)) :
    (results fn tmps).run Tryz.prog w = .ok (.tuple #[.agg #[a, b], tmps.getD u undef, tmps.getD v undef]) w := by
  have e : (results fn tmps).run Tryz.prog w = ((asAddr (tmps.getD p undef)).run Tryz.prog w).andThen fun a w₁ => ((loadVar 88 a).run Tryz.prog w₁).andThen fun x w₂ => .ok (.tuple #[x, tmps.getD u undef, tmps.getD v undef]) w₂ := by
    simp only [results, h]
    simp [Sem.run_bind, Result.andThen]
  rw [e, hp]
  simp [asAddr, run_loadVar_row w g t 88 #[a, b] fr _ hg Tryz.underlying88 rfl Tryz.infoProgram2, Result.andThen]
set_option maxRecDepth 100000 in
set_option maxHeartbeats 4000000 in
theorem newReader_lit (w : World) : Calls Tryz.prog 75 #[.string lit] w (fun e w' => ∃ R, e = .returned (.pointer (some ⟨R, 0, none⟩)) ∧ w.heap.size ≤ R ∧ RdAt w' R lit 4 0 5 ∧ w.grownBy w' none) := by
  have hb := heap_alloc_new w (.cells #[.string lit, .int .i64 0, .int .i64 0, .int .i64 0, .bool false, .int .i64 0] 127)
  have hr : RdAt (w.alloc (.cells #[.string lit, .int .i64 0, .int .i64 0, .int .i64 0, .bool false, .int .i64 0] 127)) w.heap.size lit 0 0 0 := hb
  have HR := Lib.hid hr
  have HG := Lib.hid (World.grownBy_alloc w (.cells #[.string lit, .int .i64 0, .int .i64 0, .int .i64 0, .bool false, .int .i64 0] 127) none)
  clear hb hr
  generalize hl : lit = s at *
  go_enter Tryz.func75, Tryz.ntmps75
  go_upto_region 2 with fail
  generalize w.alloc (.cells #[.string s, .int .i64 0, .int .i64 0, .int .i64 0, .bool false, .int .i64 0] 127) = w1 at *
  generalize hR : w.heap.size = R at *
  go_wp2_with (go_at_call 98; go_must (refine (rdNext_any HR.out (by rw [← hl]; decide) (by omega)).mono ?_; rintro e w2 ⟨rfl, hw⟩; have H2 := Lib.hid hw; clear hw))
  go_ret
  have h2 := H2.out
  rw [← hl] at h2 ⊢
  obtain ⟨h3, g3⟩ := went_lit h2 l0
  exact ⟨R, rfl, by omega, h3, grown_own HG.out g3 (fun i hi => by cases hi; omega)⟩
set_option maxRecDepth 100000 in
set_option maxHeartbeats 4000000 in
theorem end_lit {R : Nat} (w : World) (h : RdAt w R lit 0 31 31) : Calls Tryz.prog 76 #[.pointer (some ⟨R, 0, none⟩)] w (Ret (.tuple #[]) w) := by
  obtain ⟨c0, c1, c2, c3, c4, cf⟩ := h.cells
  generalize lit = s at *
  go_enter Tryz.func76, Tryz.ntmps76
  go_wp2
  exact bodyPost_end (results_none rfl _ _ _) rfl ⟨rfl, rfl⟩
theorem two_new (w : World) (u v : Obj) (w2 : World) (h : w2 = (w.alloc u).alloc v) : w2.heap[w.heap.size]? = some u ∧ w2.heap[w.heap.size + 1]? = some v ∧ w.grownBy w2 none := by
  subst h
  have a2 := heap_alloc_new (w.alloc u) v
  simp only [World.size_alloc] at a2
  exact ⟨heap_keep (heap_alloc_new w u) (World.grownBy_alloc (w.alloc u) v none) (by simp), a2, grownBy_trans (World.grownBy_alloc w u none) (World.grownBy_alloc _ v none)⟩
/-- The program of the text, read: it lies in memory of its own. -/
def LitRead (w0 : World) (e : Ending) (w' : World) : Prop := ∃ av sv, e = .returned (.tuple #[.agg #[av, sv], .int .i64 0, .int .i64 0]) ∧ ProgLit w0 w' av sv ∧ w0.grownBy w' none
theorem ProgLit.kept {av sv : Value} (h : ProgLit w0 w av sv) {r : Option Nat} (hg : w.grownBy w' r) (hr : ∀ i, r = some i → i < w0.heap.size) : ProgLit w0 w' av sv := by
  obtain ⟨⟨g, cap, b, e1, ho, hb, hbx⟩, q1, q, ga, hh, cap2, e2, hga, hrow, hA, hO, hP⟩ := h
  have hA' : ArgsAt w' ga q := heap_keep hA hg (fun e => by have := hr _ e; omega)
  exact ⟨⟨g, cap, b, e1, owns_under ho hg hr, hb, heap_keep hbx hg (fun e => by have := hr _ e; omega)⟩, q1, q, ga, hh, cap2, e2, hga, owns_under hrow hg hr, hA', hO.kept hg hr, hP.kept hg hr⟩
theorem ProgLit.lower {w1 : World} {av sv : Value} (h : ProgLit w1 w av sv) (hs : w0.heap.size ≤ w1.heap.size) : ProgLit w0 w av sv := by
  obtain ⟨⟨g, cap, b, e1, ho, hb, hbx⟩, q1, q, ga, hh, cap2, e2, hga, hrow, hA, hO, hP⟩ := h
  exact ⟨⟨g, cap, b, e1, owns_lower ho hs, by omega, hbx⟩, q1, q, ga, hh, cap2, e2, by omega, owns_lower hrow hs, hA, hO.from hs, hP.from hs⟩
set_option maxRecDepth 100000 in
set_option maxHeartbeats 8000000 in
theorem readWhole_lit (w : World) : Calls Tryz.prog 60 #[.string lit, .func (.func 61) #[] #[], .func (.func 62) #[] #[]] w (LitRead w) := by
  have hsz : (lit.size : Int) = 31 := rfl
  have HN := Lib.hid (fun w => newReader_lit w)
  have HP := Lib.hid (fun (w : World) (R : Nat) (h : RdAt w R lit 4 0 5) => program_lit h)
  have HE := Lib.hid (fun (w : World) (R : Nat) (h : RdAt w R lit 0 31 31) => end_lit w h)
  generalize hl : lit = s at HN HP HE hsz ⊢
  go_enter Tryz.func60, Tryz.ntmps60
  go_upto_region 4 with fail
  obtain ⟨hX, hY, hg2⟩ := two_new w (.cells #[.slice none 0 0, .slice none 0 0] 88) (.cells #[.slice none 0 0, .slice none 0 0] 88) _ rfl
  generalize (w.alloc (.cells #[.slice none 0 0, .slice none 0 0] 88)).alloc (.cells #[.slice none 0 0, .slice none 0 0] 88) = w2 at *
  have hX2 := (Array.getElem?_eq_some_iff.1 hX).1
  have HX := Lib.hid hX
  have HG2 := Lib.hid hg2
  clear hX hY hg2
  go_upto_region 5 with (go_at_call 75; go_must (refine (HN.out _).mono ?_; rintro e w3 ⟨R, rfl, hR, hr, hg⟩; have HR3 := Lib.hid hr; have HG3 := Lib.hid hg; clear hr hg))
  go_upto_region 6 with (go_at_call 61; go_must (refine (HP.out _ _ HR3.out).mono ?_; rintro e w4 ⟨av, sv, rfl, hp, hr, hg⟩; obtain ⟨⟨g, cap, b, rfl, -⟩, q1, q, ga, hh, cap2, rfl, -⟩ := id hp; have HP4 := Lib.hid hp; have HR4 := Lib.hid hr; have HG4 := Lib.hid hg; clear hp hr hg))
  have g5 := World.grownBy_alloc w4 (.cells #[.slice (some ⟨g, 0, none⟩) 1 cap, .slice (some ⟨hh, 0, none⟩) 1 cap2] 88) none
  have HZ := Lib.hid (heap_alloc_new w4 (.cells #[.slice (some ⟨g, 0, none⟩) 1 cap, .slice (some ⟨hh, 0, none⟩) 1 cap2] 88))
  have HR5 := Lib.hid (HR4.out.kept g5 (by simp))
  have HP5 := Lib.hid (HP4.out.kept g5 (fun i hi => by cases hi))
  have h03 := HG3.out.size
  have h02 := HG2.out.size
  have HX4 := Lib.hid (heap_keep (heap_keep HX.out HG3.out (by simp)) HG4.out (by simp; omega))
  have HX5 := Lib.hid (heap_keep HX4.out g5 (by simp))
  have HG5 := Lib.hid (grown_own (grownBy_trans HG2.out HG3.out) (grownBy_trans HG4.out (grownBy_any (some R) g5)) (fun i hi => by cases hi; omega))
  have hZ4 : w.heap.size < w4.heap.size := (Array.getElem?_eq_some_iff.1 HX4.out).1
  generalize hZe : w4.heap.size = Z at *
  clear g5 HR4 HP4 HX4 HX HG4 HR3 HG3 HG2
  generalize w4.alloc (.cells #[.slice (some ⟨g, 0, none⟩) 1 cap, .slice (some ⟨hh, 0, none⟩) 1 cap2] 88) = w5 at *
  obtain ⟨z0, z1, zf⟩ := cell_of_two HZ.out
  obtain ⟨r0, r1, r2, r3, r4, rf⟩ := HR5.out.cells
  have hC : Hid (Calls Tryz.prog 62 #[.agg #[.slice (some ⟨g, 0, none⟩) 1 cap, .slice (some ⟨hh, 0, none⟩) 1 cap2]] w5 (Gives (.int .i64 0) w5)) := by
    have := check_any litA litS _ _ w5 (prog_of_lit HP5.out)
    rwa [lit_good] at this
  go_upto_region 12 with (first
    | (go_at_call 76; go_must (refine (HE.out _ _ HR5.out).mono ?_; rintro e w6 ⟨rfl, rfl⟩))
    | (go_at_call 62; go_must (refine hC.out.mono ?_; rintro e w6 ⟨rfl, hg⟩; have HG6 := Lib.hid hg; obtain ⟨z0, z1, zf⟩ := cell_of_two (heap_keep HZ.out hg (by simp)); obtain ⟨y0, y1, yf⟩ := cell_of_two (heap_keep HX5.out hg (by simp)); clear hg)))
  go_wp2_with fail
  have HX6 := heap_keep HX5.out HG6.out (by simp)
  obtain ⟨f1, f2⟩ := two_set HX6 (.slice (some ⟨g, 0, none⟩) 1 cap) (.slice (some ⟨hh, 0, none⟩) 1 cap2)
  have HP6 := ((HP5.out.kept HG6.out (fun i hi => by cases hi)).kept f2 (fun i hi => by cases hi; omega)).lower (w0 := w) (by omega)
  exact bodyPost_ret (results_prog3 rfl _ _ w.heap.size _ _ _ _ rfl f1) rfl ⟨_, _, rfl, HP6, grown_own (grownBy_trans HG5.out HG6.out) f2 (fun i hi => by cases hi; omega)⟩
set_option maxRecDepth 100000 in
set_option maxHeartbeats 8000000 in
theorem read_lit (w : World) : Calls Tryz.prog 45 #[.string lit] w (LitRead w) := by
  have HW := Lib.hid (fun w => readWhole_lit w)
  generalize hl : lit = s at HW ⊢
  go_enter Tryz.func45, Tryz.ntmps45
  go_upto_region 1 with fail
  have g1 := World.grownBy_alloc w (.cells #[.slice none 0 0, .slice none 0 0] 88) none
  have HX := Lib.hid (heap_alloc_new w (.cells #[.slice none 0 0, .slice none 0 0] 88))
  have HG1 := Lib.hid g1
  clear g1
  generalize w.alloc (.cells #[.slice none 0 0, .slice none 0 0] 88) = w1 at *
  have hX1 := (Array.getElem?_eq_some_iff.1 HX.out).1
  go_wp2_with (go_at_call 60; go_must (refine (HW.out _).mono ?_; rintro e w2 ⟨av, sv, rfl, hp, hg⟩; obtain ⟨⟨g, cap, b, rfl, -⟩, q1, q, ga, hh, cap2, rfl, -⟩ := id hp; have HP2 := Lib.hid hp; have HG2 := Lib.hid hg; obtain ⟨y0, y1, yf⟩ := cell_of_two (heap_keep HX.out hg (by simp)); clear hp hg))
  have HX2 := heap_keep HX.out HG2.out (by simp)
  obtain ⟨f1, f2⟩ := two_set HX2 (.slice (some ⟨g, 0, none⟩) 1 cap) (.slice (some ⟨hh, 0, none⟩) 1 cap2)
  have HP3 := (HP2.out.kept f2 (fun i hi => by cases hi; omega)).lower (w0 := w) (by omega)
  exact bodyPost_ret (results_prog3 rfl _ _ w.heap.size _ _ _ _ rfl f1) rfl ⟨_, _, rfl, HP3, grown_own (grownBy_trans HG1.out HG2.out) f2 (fun i hi => by cases hi; omega)⟩
set_option maxRecDepth 100000 in
set_option maxHeartbeats 8000000 in
theorem nested_any (w : World) : Calls Tryz.prog 20 #[] w (Gives (.bool true) w) := by
  have HW := Lib.hid (fun w => read_lit w)
  go_enter Tryz.func20, Tryz.ntmps20
  go_upto_region 2 with (go_at_call 45; go_must (refine (HW.out _).mono ?_; rintro e w2 ⟨av, sv, rfl, hp, hg⟩; obtain ⟨⟨g, cap, b, rfl, -⟩, q1, q, ga, hh, cap2, rfl, -⟩ := id hp; have HP2 := Lib.hid hp; have HG2 := Lib.hid hg; clear hp hg))
  have g3 := World.grownBy_alloc w2 (.cells #[.slice (some ⟨g, 0, none⟩) 1 cap, .slice (some ⟨hh, 0, none⟩) 1 cap2] 88) none
  obtain ⟨x0, x1, xf⟩ := cell_of_two (heap_alloc_new w2 (.cells #[.slice (some ⟨g, 0, none⟩) 1 cap, .slice (some ⟨hh, 0, none⟩) 1 cap2] 88))
  have hp3 := HP2.out.kept g3 (fun i hi => by cases hi)
  obtain ⟨-, q1', q', ga', hh', cap2', e2, hga, hrow, hA, -⟩ := hp3
  cases e2
  have c14 := hrow.cells rfl 14 _ rfl
  rw [add_zero'] at c14
  have a8 : World.cell? (w2.alloc (.cells #[.slice (some ⟨g, 0, none⟩) 1 cap, .slice (some ⟨hh, 0, none⟩) 1 cap2] 88)) ⟨ga', 8, none⟩ = some (.int .i64 7) := cell_at (n := 0) hA rfl
  have HG3 := Lib.hid (grownBy_trans HG2.out g3)
  clear hrow hA g3 HP2 HG2
  go_wp2
  go_ret
  exact ⟨rfl, HG3.out⟩
end Go.Proofs.YtblpknkgjkbacaaGreatDoor
