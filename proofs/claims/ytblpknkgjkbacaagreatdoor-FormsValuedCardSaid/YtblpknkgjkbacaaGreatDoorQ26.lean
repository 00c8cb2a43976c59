/-
 The checker's steps: the check says what is wrong, for every step.
-/
import Derived.Test.YtblpknkgjkbacaaGreatDoorQ25
namespace Go.Proofs.YtblpknkgjkbacaaGreatDoor
set_option linter.unusedVariables false
open Go.RowKit Go.Maps Go.WideMaps
variable {w w' : World} {C Bd Bs Bl kd : Nat} {cells : Int} {Dd : Table} {Xd : ByteArray → Int}
theorem chk_set4 {C Bd Bs Bl : Nat} {cells steps : Int} (h : ChkAt w C Bd Bs Bl cells steps) (m : Int) : ChkAt (w.setCell ⟨C, 4, none⟩ (.int .i64 m)) C Bd Bs Bl cells m := by
  unfold ChkAt at h ⊢
  simp [World.setCell, Array.getElem?_modify, h]
/-- The check of a step says what is wrong with it. -/
def StepGood (C Bd Bs Bl kd : Nat) (cells : Int) (Dd : Table) (Xd : ByteArray → Int) (s : StepD) : Prop :=
  ∀ (d : Nat) (X S : ByteArray → Bool) (n : Int) (w : World) (vs : List Value), EnvS C Bd Bs Bl kd cells Dd X S n w → n ≤ 200000 → d ≤ 13 → StepF w vs s →
    Calls Tryz.prog 111 #[.pointer (some ⟨C, 0, none⟩), .agg vs.toArray, .int .i64 d] w (Checks C Bd Bs Bl kd cells Dd X (stepR Dd Xd d X n S s) w)
theorem stepR_eq (d : Nat) (X S : ByteArray → Bool) (n : Int) (kind : Int) (name : ByteArray) (low high : List BoundD) (conds : List CondD) (body : List StepD) (arr : ByteArray) (subs : List CondD) (x : ExprD) :
    stepR Dd Xd d X n S (.mk kind name low high conds body arr subs x) = if 12 < d ∨ 200000 < n + 1 then (2, n + 1, S) else if kind < 1 ∨ 3 < kind then (4, n + 1, S)
      else if stepMore kind name low.length high.length conds.length body.length arr subs.length x = true then (3, n + 1, S) else if kind ≠ 2 ∧ nameB name = false then (5, n + 1, S)
      else if kind = 1 then loopR Dd Xd d X S (n + 1) name low high body else if kind = 2 then condR Dd Xd d X S (n + 1) conds body else stmtR Dd Xd X S (n + 1) name arr subs x := by
  rw [stepR]
  rfl
set_option maxRecDepth 100000 in
set_option maxHeartbeats 8000000 in
theorem chkStep_step (hXd : TabIs Dd Xd) (kind : Int) (name : ByteArray) (low high : List BoundD) (conds : List CondD) (body : List StepD) (arr : ByteArray) (subs : List CondD) (x : ExprD) (hbody : BodyGood C Bd Bs Bl kd cells Dd Xd body) : StepGood C Bd Bs Bl kd cells Dd Xd (.mk kind name low high conds body arr subs x) := by
  intro d X S steps w vs hE hn hd hF
  have HF := Lib.hid hF
  unfold StepF at hF
  obtain ⟨vlo, vhi, vcs, p5, k5, vsb, e0, e1, e2, e3, e4, e5, e6, rfl, hkr, hns, hlo, hhi, hcs, hars, hsb, hx, hbl, hbd⟩ := hF
  obtain ⟨p2, k2, rfl, l2, -⟩ := hlo
  obtain ⟨p3, k3, rfl, l3, -⟩ := hhi
  obtain ⟨p4, k4, rfl, -, -⟩ := hcs
  obtain ⟨p7, k7, rfl, -, -⟩ := hsb
  obtain ⟨op, n, c, ts, xa, xs, args⟩ := x
  unfold ExprF at hx
  obtain ⟨⟨rfl, -⟩, ⟨rfl, -⟩, ⟨rfl, -⟩, ⟨p11, k11, rfl, -⟩, ⟨rfl, -⟩, ⟨p13, k13, rfl, -⟩, p14, k14, rfl, -⟩ := hx
  have hval := stepR_eq (Dd := Dd) (Xd := Xd) d X S steps kind name low high conds body arr subs (.mk op n c ts xa xs args)
  generalize stepR Dd Xd d X steps S (.mk kind name low high conds body arr subs (.mk op n c ts xa xs args)) = R at *
  have HBo := Lib.hid hbody
  have HXd := Lib.hid hXd
  have hs0 : 0 ≤ steps := by
    obtain ⟨k, D, h1, h2, h3⟩ := hE.sts
    omega
  have hap := hE.apart
  have hCw : C < w.heap.size := (Array.getElem?_eq_some_iff.1 hE.chk).1
  have hsB : Bs < w.heap.size := by
    obtain ⟨k, D, h1, _⟩ := hE.sts
    exact World.ownsMap.lt h1
  have hsL : Bl < w.heap.size := by
    obtain ⟨k, D, h1, _⟩ := hE.loops
    exact World.ownsMap.lt h1
  have hsD : Bd < w.heap.size := World.ownsMap.lt hE.dims
  have HE := Lib.hid hE
  clear hE hbody hXd hbd
  have HG := Lib.hid (World.grownBy_alloc w (.cells #[.int .i64 kind, .string name, .slice p2 low.length k2, .slice p3 high.length k3, .slice p4 conds.length k4, .slice p5 body.length k5, .string arr, .slice p7 subs.length k7, .int .i64 op, .int .i64 n, .int .i64 c, .slice p11 ts.length k11, .string xa, .slice p13 xs.length k13, .slice p14 args.length k14] 96) none)
  have HB := Lib.hid (heap_alloc_new w (.cells #[.int .i64 kind, .string name, .slice p2 low.length k2, .slice p3 high.length k3, .slice p4 conds.length k4, .slice p5 body.length k5, .string arr, .slice p7 subs.length k7, .int .i64 op, .int .i64 n, .int .i64 c, .slice p11 ts.length k11, .string xa, .slice p13 xs.length k13, .slice p14 args.length k14] 96))
  have hw1 : IntKind.i64.wrap (steps + 1) = steps + 1 := wrap_near (by omega)
  go_enter Tryz.func111, Tryz.ntmps111
  go_upto_region 1 with fail
  generalize w.alloc (.cells #[.int .i64 kind, .string name, .slice p2 low.length k2, .slice p3 high.length k3, .slice p4 conds.length k4, .slice p5 body.length k5, .string arr, .slice p7 subs.length k7, .int .i64 op, .int .i64 n, .int .i64 c, .slice p11 ts.length k11, .string xa, .slice p13 xs.length k13, .slice p14 args.length k14] 96) = w1 at *
  have HE1 := Lib.hid (HE.out.kept HG.out)
  obtain ⟨⟨x0, x1, x2, x3, x4, x5, x6, x7, x8, x9, x10, x11, x12, x13, x14⟩, xf⟩ := box15_cells HB.out
  obtain ⟨c0, c1, c2, c3, c4, cf⟩ := HE1.out.chk.cells
  go_upto_region 2 with fail
  have hset := chk_set4 HE1.out.chk (steps + 1)
  have gset := grown_set w1 C 4 (.int .i64 (steps + 1))
  have HE2 : Hid (EnvS C Bd Bs Bl kd cells Dd X S (steps + 1) (w1.setCell ⟨C, 4, none⟩ (.int .i64 (steps + 1)))) := ⟨hset, World.ownsMap.kept HE1.out.dims gset (by simp; omega), (HE1.out.sts.kept gset (by simp; omega)).more (by omega), (HE1.out.loops.kept gset (by simp; omega)).more (by omega), HE1.out.ne⟩
  have HSp : Hid (NamesAt (w1.setCell ⟨C, 4, none⟩ (.int .i64 (steps + 1))) Bs S (steps + 1 - 1)) := (HE1.out.sts.kept gset (by simp; omega)).more (by omega)
  have HLp : Hid (NamesAt (w1.setCell ⟨C, 4, none⟩ (.int .i64 (steps + 1))) Bl X (steps + 1 - 1)) := (HE1.out.loops.kept gset (by simp; omega)).more (by omega)
  have HBu : Hid (But C Bs Bl w (w1.setCell ⟨C, 4, none⟩ (.int .i64 (steps + 1)))) := (But.of_grown HG.out).trans (But.of_one gset (by omega))
  have HB2 := Lib.hid (heap_keep HB.out gset (by simp; omega))
  clear x0 x1 x2 x3 x4 x5 x6 x7 x8 x9 x10 x11 x12 x13 x14 xf c0 c1 c2 c3 c4 cf hset gset HB HG HE1
  generalize w1.setCell ⟨C, 4, none⟩ (.int .i64 (steps + 1)) = w2 at *
  have HF2 := Lib.hid (stepF_safe (HE.out.safe HBu.out) _ _ HF.out)
  obtain ⟨⟨x0, x1, x2, x3, x4, x5, x6, x7, x8, x9, x10, x11, x12, x13, x14⟩, xf⟩ := box15_cells HB2.out
  obtain ⟨c0, c1, c2, c3, c4, cf⟩ := HE2.out.chk.cells
  by_cases h1 : 12 < d ∨ 200000 < steps + 1
  · rw [if_pos h1] at hval
    subst hval
    by_cases h1a : 12 < d
    · have h1i : (12 : Int) < (d : Int) := by omega
      go_wp2
      go_ret
      exact ⟨rfl, HBu.out, HE2.out⟩
    · have h1i : ¬ (12 : Int) < (d : Int) := by omega
      have h1j : 200000 < steps + 1 := by omega
      go_wp2
      go_ret
      exact ⟨rfl, HBu.out, HE2.out⟩
  rw [if_neg h1] at hval
  have h1i : ¬ (12 : Int) < (d : Int) := by omega
  have h1j : ¬ 200000 < steps + 1 := by omega
  by_cases h2 : kind < 1 ∨ 3 < kind
  · rw [if_pos h2] at hval
    subst hval
    go_wp2
    all_goals first
      | (go_ret; exact ⟨rfl, HBu.out, HE2.out⟩)
      | (exfalso; omega)
  rw [if_neg h2] at hval
  have h2a : ¬ kind < 1 := by omega
  have h2b : ¬ 3 < kind := by omega
  have HV := Lib.hid hval
  clear hval
  have hm0 : ∀ b, stepMore kind name low.length high.length conds.length body.length arr subs.length (.mk op n c ts xa xs args) = b → stepMore kind name low.length high.length conds.length body.length arr subs.length (.mk op n c ts xa xs args) = b := fun _ h => h
  cases hm : stepMore kind name low.length high.length conds.length body.length arr subs.length (.mk op n c ts xa xs args) with
  | true =>
    have HR := Lib.hid (HV.out.trans (if_pos hm))
    go_wp2_with (go_at_call 136; go_must (refine (stepMore_any kind (by omega) name low high conds body arr subs (.mk op n c ts xa xs args) _ _ HF2.out).mono ?_; rintro e w3 ⟨rfl, hg3⟩; rw [hm]; have HG3 := Lib.hid hg3; obtain ⟨⟨x0, x1, x2, x3, x4, x5, x6, x7, x8, x9, x10, x11, x12, x13, x14⟩, xf⟩ := box15_cells (heap_keep HB2.out hg3 (by simp)); clear hg3))
    go_ret
    exact ⟨by rw [HR.out]; rfl, HBu.out.trans (But.of_grown HG3.out), by rw [HR.out]; exact HE2.out.kept HG3.out⟩
  | false =>
  have HV2 := Lib.hid (HV.out.trans (if_neg (by simp [hm])))
  clear HV hm0
  go_upto_region 8 with (go_at_call 136; go_must (refine (stepMore_any kind (by omega) name low high conds body arr subs (.mk op n c ts xa xs args) _ _ HF2.out).mono ?_; rintro e w3 ⟨rfl, hg3⟩; rw [hm]; have HG3 := Lib.hid hg3; obtain ⟨⟨x0, x1, x2, x3, x4, x5, x6, x7, x8, x9, x10, x11, x12, x13, x14⟩, xf⟩ := box15_cells (heap_keep HB2.out hg3 (by simp)); clear hg3))
  have HE3 := Lib.hid (HE2.out.kept HG3.out)
  have HSp3 := Lib.hid (HSp.out.kept HG3.out (by simp))
  have HLp3 := Lib.hid (HLp.out.kept HG3.out (by simp))
  have HF3 := Lib.hid (stepF_safe (Safe.of_grown HG3.out) _ _ HF2.out)
  have HB3 := Lib.hid (heap_keep HB2.out HG3.out (by simp))
  have HBu3 := Lib.hid (HBu.out.trans (But.of_grown HG3.out))
  clear c0 c1 c2 c3 c4 cf hm HB2 HF2 HE2 HSp HLp HBu HG3
  by_cases hk2 : kind = 2
  · subst hk2
    have HR := Lib.hid (HV2.out.trans ((if_neg (by simp)).trans ((if_neg (by omega)).trans (if_pos rfl))))
    clear HV2
    go_wp2_with (go_at_call 138; go_must (refine (chkCond_any X S (steps + 1) 2 name low high conds body arr subs (.mk op n c ts xa xs args) HBo.out d _ _ HE3.out (by omega) (by omega) HF3.out).mono ?_; rintro e w5 ⟨rfl, hb5, he5⟩; have B5 := Lib.hid hb5; have E5 := Lib.hid he5; clear hb5 he5))
    go_ret
    exact ⟨by rw [HR.out]; rfl, HBu3.out.trans B5.out, by rw [HR.out]; exact E5.out⟩
  have hk2b : (kind != 2) = true := by simpa using hk2
  have hk2c : (kind == 2) = false := by simpa using hk2
  cases hnb : nameB name with
  | false =>
    have HR := Lib.hid (HV2.out.trans (if_pos ⟨hk2, hnb⟩))
    go_wp2_with (go_at_call 35; go_must (refine (isName_any _ _ hns).mono ?_; rintro e w4 ⟨rfl, rfl⟩; rw [hnb]))
    go_ret
    exact ⟨by rw [HR.out]; rfl, HBu3.out, by rw [HR.out]; exact HE3.out⟩
  | true =>
  have HV3 := Lib.hid (HV2.out.trans (if_neg (by simp [hnb])))
  clear HV2
  by_cases hk1 : kind = 1
  · subst hk1
    have HR := Lib.hid (HV3.out.trans (if_pos rfl))
    go_wp2_with (first | (go_at_call 35; go_must (refine (isName_any _ _ hns).mono ?_; rintro e w4 ⟨rfl, rfl⟩; rw [hnb])) | (go_at_call 137; go_must (refine (chkLoop_any HXd.out X S (steps + 1) 1 name low high conds body arr subs (.mk op n c ts xa xs args) HBo.out d _ _ HE3.out HLp3.out (by omega) (by omega) HF3.out).mono ?_; rintro e w5 ⟨rfl, hb5, he5⟩; have B5 := Lib.hid hb5; have E5 := Lib.hid he5; clear hb5 he5)))
    go_ret
    exact ⟨by rw [HR.out]; rfl, HBu3.out.trans B5.out, by rw [HR.out]; exact E5.out⟩
  · have hk1b : (kind == 1) = false := by simpa using hk1
    have HR := Lib.hid (HV3.out.trans ((if_neg hk1).trans (if_neg hk2)))
    go_wp2_with (first | (go_at_call 35; go_must (refine (isName_any _ _ hns).mono ?_; rintro e w4 ⟨rfl, rfl⟩; rw [hnb])) | (go_at_call 139; go_must (refine (chkStmt_any HXd.out kind name low high conds body arr subs (.mk op n c ts xa xs args) _ _ HE3.out HSp3.out (by omega) HF3.out).mono ?_; rintro e w5 ⟨rfl, hb5, he5⟩; have B5 := Lib.hid hb5; have E5 := Lib.hid he5; clear hb5 he5)))
    go_ret
    exact ⟨by rw [HR.out]; rfl, HBu3.out.trans B5.out, by rw [HR.out]; exact E5.out⟩
end Go.Proofs.YtblpknkgjkbacaaGreatDoor
