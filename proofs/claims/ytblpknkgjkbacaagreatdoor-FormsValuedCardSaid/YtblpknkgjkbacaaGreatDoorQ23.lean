/-
 The checker's expression: the check says what is wrong, for every expression.
-/
import Derived.Deep.Cut
import Derived.Deep.CutRange
import Derived.Deep.DeepCutAuto
import Derived.Test.YtblpknkgjkbacaaGreatDoorQ12
import Derived.Test.YtblpknkgjkbacaaGreatDoorQ22
namespace Go.Proofs.YtblpknkgjkbacaaGreatDoor
set_option linter.unusedVariables false
open Go.RowKit Go.Maps Go.WideMaps
variable {w w' : World} {C Bd Bs Bl kd kl : Nat} {cells steps : Int} {Dd Dl : Table} {Xd : ByteArray → Int} {X : ByteArray → Bool}
theorem op_enterG {P : Program} {ops : Array Oper} {Q : Exit → Act → World → Prop} {o : Oper} {a : Act} {w : World} {K : Act → World → Prop} (hw : Region.wanted o (yielded ops a.tmps) = true) (f : FuncId) (args : Array Value) (hrun : (execOp a.eval o).run P w = .ok (.enter f args) w)
    (hc : Calls P f args w fun e w2 => ∃ v, e = .returned v ∧ K (a.put o.dst v) w2) : OpTo P ops Q o a w K := by
  unfold OpTo
  rw [if_pos hw]
  unfold Oper.wp
  rw [hrun, Oper.upon_enter]
  refine hc.mono fun e w2 hh => ?_
  obtain ⟨v, rfl, h⟩ := hh
  exact h
theorem box1_cell {Y : Nat} {v : Value} {T : TypeId} (h : w.heap[Y]? = some (.cells #[v] T (0, 0))) : w.cell? ⟨Y, 0, none⟩ = some v := by unfold World.cell?; rw [h]; rfl
theorem three_boxes (w : World) (u v x : Obj) (w3 : World) (h3 : w3 = ((w.alloc u).alloc v).alloc x) : w3.heap[w.heap.size]? = some u ∧ w3.heap[w.heap.size + 1]? = some v ∧ w3.heap[w.heap.size + 1 + 1]? = some x ∧ w.grownBy w3 none := by
  have g1 := World.grownBy_alloc w u none
  have g2 := World.grownBy_alloc (w.alloc u) v none
  have g3 := World.grownBy_alloc ((w.alloc u).alloc v) x none
  rw [← h3] at g3
  have a1 := heap_alloc_new w u
  have a2 := heap_alloc_new (w.alloc u) v
  have a3 := heap_alloc_new ((w.alloc u).alloc v) x
  rw [← h3] at a3
  simp only [World.size_alloc] at a2 a3
  exact ⟨heap_keep (heap_keep a1 g2 (by simp)) g3 (by simp), heap_keep a2 g3 (by simp), a3, grownBy_trans g1 (grownBy_trans g2 g3)⟩
set_option maxRecDepth 100000 in
set_option maxHeartbeats 8000000 in
theorem chkExpr_step (hXd : TabIs Dd Xd) (hXl : SetIs Dl X) (op n c : Int) (ts : List TermD) (arr : ByteArray) (subs : List CondD) (args : List ExprD) (hargs : ∀ y ∈ args, ExprGood C Bd Bs Bl kd kl cells steps Dd Dl Xd X y) : ExprGood C Bd Bs Bl kd kl cells steps Dd Dl Xd X (.mk op n c ts arr subs args) := by
  intro d w v0 v1 v2 v3 v4 v5 v6 hE hd hF
  have hF2 := hF
  unfold ExprF at hF2
  obtain ⟨⟨rfl, _, _⟩, ⟨rfl, _, _⟩, ⟨rfl, _, _⟩, hts, ⟨rfl, har⟩, hsubs, pa, acap, rfl, hal, hargl⟩ := hF2
  obtain ⟨pt, tcap, rfl, htl, -⟩ := id hts
  obtain ⟨ps, scap, rfl, hsl, -⟩ := id hsubs
  have HT := Lib.hid hts
  have HS := Lib.hid hsubs
  have HL := Lib.hid hargl
  have HE := Lib.hid hE
  have HA := Lib.hid hargs
  have hlen : (args.length : Int) ≤ 9223372036854775807 := by omega
  unfold maxLen at htl
  have HV := Lib.hid (rfl : exprE Dd Xd X d (.mk op n c ts arr subs args) = exprE Dd Xd X d (.mk op n c ts arr subs args))
  have hval : exprE Dd Xd X d (.mk op n c ts arr subs args) = if 12 < d then 2 else if op < 1 ∨ 6 < op then 4 else if (args.length : Int) ≠ argsN op ∨ moreE op n c ts.length arr subs.length = true then 3 else if n < 0 ∨ 1000003 ≤ n then 1 else if op = 2 then inErr X c ts else if op = 3 then placeE Dd Xd X arr subs else exprsE Dd Xd X (d + 1) args := by rw [exprE]
  clear HV hF hE hts hsubs hargl hargs
  generalize exprE Dd Xd X d (.mk op n c ts arr subs args) = E at *
  go_enter Tryz.func159, Tryz.ntmps159
  go_upto_region 1 with fail
  obtain ⟨hP, hX7, hQ, hg3⟩ := three_boxes w (.cells #[.pointer (some ⟨C, 0, none⟩)] 132) (.cells #[.int .i64 op, .int .i64 n, .int .i64 c, .slice pt ts.length tcap, .string arr, .slice ps subs.length scap, .slice pa args.length acap] 93) (.cells #[.int .i64 d] 3) _ rfl
  generalize ((w.alloc (.cells #[.pointer (some ⟨C, 0, none⟩)] 132)).alloc (.cells #[.int .i64 op, .int .i64 n, .int .i64 c, .slice pt ts.length tcap, .string arr, .slice ps subs.length scap, .slice pa args.length acap] 93)).alloc (.cells #[.int .i64 d] 3) = w3 at *
  generalize w.heap.size + 1 + 1 = Qb at *
  generalize w.heap.size + 1 = Xb at *
  generalize w.heap.size = Pb at *
  obtain ⟨⟨x0, x1, x2, x3, x4, x5, x6⟩, xf⟩ := box7_cells hX7
  have p0 := box1_cell hP
  have q0 := box1_cell hQ
  have HE3 := Lib.hid (HE.out.kept hg3)
  have HG3 := Lib.hid hg3
  have HPb := Lib.hid hP
  have HQb := Lib.hid hQ
  clear hP hQ hg3
  by_cases h1 : 12 < d
  · rw [if_pos h1] at hval
    have h1i : (12 : Int) < (d : Int) := by omega
    subst hval
    go_wp2
    go_ret
    exact ⟨rfl, HG3.out⟩
  rw [if_neg h1] at hval
  have h1i : ¬ (12 : Int) < (d : Int) := by omega
  by_cases h2 : op < 1 ∨ 6 < op
  · rw [if_pos h2] at hval
    subst hval
    go_wp2
    all_goals first
      | (go_ret; exact ⟨rfl, HG3.out⟩)
      | (exfalso; omega)
  rw [if_neg h2] at hval
  have h2a : ¬ op < 1 := by omega
  have h2b : ¬ 6 < op := by omega
  go_upto_region 5 with fail
  go_cut [19] (fun s19 wx => s19 = .bool (((args.length : Int) != argsN op) || moreE op n c ts.length arr subs.length) ∧ Hid (w3.grownBy wx none))
  case first =>
    generalize hm : moreE op n c ts.length arr subs.length = m
    by_cases h3 : (args.length : Int) = argsN op
    case neg =>
      have hne : ((args.length : Int) != argsN op) = true := by simpa using h3
      have HS0 : Hid ((fun W => W.cell? ⟨Xb, 0, none⟩ = some (.int .i64 op) ∧ W.cell? ⟨Xb, 1, none⟩ = some (.int .i64 n) ∧ W.cell? ⟨Xb, 2, none⟩ = some (.int .i64 c) ∧ W.cell? ⟨Xb, 3, none⟩ = some (.slice pt ts.length tcap) ∧ W.cell? ⟨Xb, 4, none⟩ = some (.string arr) ∧ W.cell? ⟨Xb, 5, none⟩ = some (.slice ps subs.length scap) ∧ W.cell? ⟨Xb, 6, none⟩ = some (.slice pa args.length acap)) w3.drew) := ⟨x0, x1, x2, x3, x4, x5, x6⟩
      refine region_late (n := 11) (S := (fun W => W.cell? ⟨Xb, 0, none⟩ = some (.int .i64 op) ∧ W.cell? ⟨Xb, 1, none⟩ = some (.int .i64 n) ∧ W.cell? ⟨Xb, 2, none⟩ = some (.int .i64 c) ∧ W.cell? ⟨Xb, 3, none⟩ = some (.slice pt ts.length tcap) ∧ W.cell? ⟨Xb, 4, none⟩ = some (.string arr) ∧ W.cell? ⟨Xb, 5, none⟩ = some (.slice ps subs.length scap) ∧ W.cell? ⟨Xb, 6, none⟩ = some (.slice pa args.length acap))) (by kernel_rfl) ⟨by kernel_rfl, by kernel_rfl, by kernel_rfl, by decide⟩ ?_
      refine late_take (i := 0) (v := ?va_0) ⟨by kernel_rfl, by kernel_rfl, by kernel_rfl, by decide⟩ rfl (by decide +kernel) (by decide +kernel) (by decide +kernel) (fun _ _ _ h => h) (Or.inl ⟨by rfl, ?ha_0⟩) HS0.out ?ra_0
      case ha_0 =>
        intro W hW
        obtain ⟨s0, s1, s2, s3, s4, s5, s6⟩ := hW
        go_simp
        try with_reducible rfl
      go_frame
      refine late_take (i := 1) (v := ?va_1) ⟨by kernel_rfl, by kernel_rfl, by kernel_rfl, by decide⟩ rfl (by decide +kernel) (by decide +kernel) (by decide +kernel) (fun _ _ _ h => h) (Or.inl ⟨by rfl, ?ha_1⟩) HS0.out ?ra_1
      case ha_1 =>
        intro W hW
        obtain ⟨s0, s1, s2, s3, s4, s5, s6⟩ := hW
        go_simp
        try with_reducible rfl
      go_frame
      refine late_take (i := 2) (v := ?va_2) ⟨by kernel_rfl, by kernel_rfl, by kernel_rfl, by decide⟩ rfl (by decide +kernel) (by decide +kernel) (by decide +kernel) (fun _ _ _ h => h) (Or.inl ⟨by rfl, ?ha_2⟩) HS0.out ?ra_2
      case ha_2 =>
        intro W hW
        obtain ⟨s0, s1, s2, s3, s4, s5, s6⟩ := hW
        go_simp
        try with_reducible rfl
      go_frame
      refine late_take (i := 3) (v := ?va_3) ⟨by kernel_rfl, by kernel_rfl, by kernel_rfl, by decide⟩ rfl (by decide +kernel) (by decide +kernel) (by decide +kernel) (fun _ _ _ h => h) (Or.inl ⟨by rfl, ?ha_3⟩) HS0.out ?ra_3
      case ha_3 =>
        intro W hW
        obtain ⟨s0, s1, s2, s3, s4, s5, s6⟩ := hW
        go_simp
        try with_reducible rfl
      go_frame
      refine late_take (i := 4) (v := ?va_4) ⟨by kernel_rfl, by kernel_rfl, by kernel_rfl, by decide⟩ rfl (by decide +kernel) (by decide +kernel) (by decide +kernel) (fun _ _ _ h => h) (Or.inl ⟨by rfl, ?ha_4⟩) HS0.out ?ra_4
      case ha_4 =>
        intro W hW
        obtain ⟨s0, s1, s2, s3, s4, s5, s6⟩ := hW
        go_simp
        try with_reducible rfl
      go_frame
      refine late_one (i := 5) rfl (by kernel_rfl) (by kernel_rfl) (fun K hK => ?_)
      have HK := Lib.hid hK
      clear hK
      refine op_enter (by rfl) 171 #[.int .i64 op] (by kernel_rfl) ((argsOf_any op _).mono ?_)
      rintro e w4 ⟨rfl, rfl⟩
      refine ⟨_, rfl, HK.out _ _ HS0.out ?_⟩
      clear HK
      go_frame
      refine late_take (i := 6) (v := .bool true) ⟨by kernel_rfl, by kernel_rfl, by kernel_rfl, by decide⟩ rfl (by decide +kernel) (by decide +kernel) (by decide +kernel) (fun _ _ _ h => h) (Or.inl ⟨by rfl, ?ha_6⟩) HS0.out ?ra_6
      case ha_6 =>
        intro W hW
        obtain ⟨s0, s1, s2, s3, s4, s5, s6⟩ := hW
        go_simp
        try rw [hne]
        try with_reducible rfl
      go_frame
      refine late_take (i := 7) (v := ?va_7) ⟨by kernel_rfl, by kernel_rfl, by kernel_rfl, by decide⟩ rfl (by decide +kernel) (by decide +kernel) (by decide +kernel) (fun _ _ _ h => h) (Or.inl ⟨by rfl, ?ha_7⟩) HS0.out ?ra_7
      case ha_7 =>
        intro W hW
        obtain ⟨s0, s1, s2, s3, s4, s5, s6⟩ := hW
        go_simp
        try with_reducible rfl
      go_frame
      refine late_one (i := 8) rfl (by kernel_rfl) (by kernel_rfl) (fun K hK => ?_)
      have HK := Lib.hid hK
      clear hK
      go_simp
      refine HK.out _ _ HS0.out ?_
      clear HK
      refine late_one (i := 9) rfl (by kernel_rfl) (by kernel_rfl) (fun K hK => ?_)
      have HK := Lib.hid hK
      clear hK
      go_simp
      refine HK.out _ _ HS0.out ?_
      clear HK
      refine late_take (i := 10) (v := ?va_10) ⟨by kernel_rfl, by kernel_rfl, by kernel_rfl, by decide⟩ rfl (by decide +kernel) (by decide +kernel) (by decide +kernel) (fun _ _ _ h => h) (Or.inl ⟨by rfl, ?ha_10⟩) HS0.out ?ra_10
      case ha_10 =>
        intro W hW
        obtain ⟨s0, s1, s2, s3, s4, s5, s6⟩ := hW
        go_simp
        try with_reducible rfl
      go_frame
      refine late_done (by decide +kernel) ?_
      simp only [List.drop_succ_cons, List.drop_zero]
      go_wp2_with fail
      go_meet
      case rel => exact ⟨by rw [hne]; rfl, grown_drew _ none⟩
    case pos =>
      have hne : ((args.length : Int) != argsN op) = false := by simp [h3]
      have HS0 : Hid ((fun W => W.cell? ⟨Xb, 0, none⟩ = some (.int .i64 op) ∧ W.cell? ⟨Xb, 1, none⟩ = some (.int .i64 n) ∧ W.cell? ⟨Xb, 2, none⟩ = some (.int .i64 c) ∧ W.cell? ⟨Xb, 3, none⟩ = some (.slice pt ts.length tcap) ∧ W.cell? ⟨Xb, 4, none⟩ = some (.string arr) ∧ W.cell? ⟨Xb, 5, none⟩ = some (.slice ps subs.length scap) ∧ W.cell? ⟨Xb, 6, none⟩ = some (.slice pa args.length acap)) w3.drew) := ⟨x0, x1, x2, x3, x4, x5, x6⟩
      refine region_late (n := 11) (S := (fun W => W.cell? ⟨Xb, 0, none⟩ = some (.int .i64 op) ∧ W.cell? ⟨Xb, 1, none⟩ = some (.int .i64 n) ∧ W.cell? ⟨Xb, 2, none⟩ = some (.int .i64 c) ∧ W.cell? ⟨Xb, 3, none⟩ = some (.slice pt ts.length tcap) ∧ W.cell? ⟨Xb, 4, none⟩ = some (.string arr) ∧ W.cell? ⟨Xb, 5, none⟩ = some (.slice ps subs.length scap) ∧ W.cell? ⟨Xb, 6, none⟩ = some (.slice pa args.length acap))) (by kernel_rfl) ⟨by kernel_rfl, by kernel_rfl, by kernel_rfl, by decide⟩ ?_
      refine late_take (i := 0) (v := ?vb_0) ⟨by kernel_rfl, by kernel_rfl, by kernel_rfl, by decide⟩ rfl (by decide +kernel) (by decide +kernel) (by decide +kernel) (fun _ _ _ h => h) (Or.inl ⟨by rfl, ?hb_0⟩) HS0.out ?rb_0
      case hb_0 =>
        intro W hW
        obtain ⟨s0, s1, s2, s3, s4, s5, s6⟩ := hW
        go_simp
        try with_reducible rfl
      go_frame
      refine late_take (i := 1) (v := ?vb_1) ⟨by kernel_rfl, by kernel_rfl, by kernel_rfl, by decide⟩ rfl (by decide +kernel) (by decide +kernel) (by decide +kernel) (fun _ _ _ h => h) (Or.inl ⟨by rfl, ?hb_1⟩) HS0.out ?rb_1
      case hb_1 =>
        intro W hW
        obtain ⟨s0, s1, s2, s3, s4, s5, s6⟩ := hW
        go_simp
        try with_reducible rfl
      go_frame
      refine late_take (i := 2) (v := ?vb_2) ⟨by kernel_rfl, by kernel_rfl, by kernel_rfl, by decide⟩ rfl (by decide +kernel) (by decide +kernel) (by decide +kernel) (fun _ _ _ h => h) (Or.inl ⟨by rfl, ?hb_2⟩) HS0.out ?rb_2
      case hb_2 =>
        intro W hW
        obtain ⟨s0, s1, s2, s3, s4, s5, s6⟩ := hW
        go_simp
        try with_reducible rfl
      go_frame
      refine late_take (i := 3) (v := ?vb_3) ⟨by kernel_rfl, by kernel_rfl, by kernel_rfl, by decide⟩ rfl (by decide +kernel) (by decide +kernel) (by decide +kernel) (fun _ _ _ h => h) (Or.inl ⟨by rfl, ?hb_3⟩) HS0.out ?rb_3
      case hb_3 =>
        intro W hW
        obtain ⟨s0, s1, s2, s3, s4, s5, s6⟩ := hW
        go_simp
        try with_reducible rfl
      go_frame
      refine late_take (i := 4) (v := ?vb_4) ⟨by kernel_rfl, by kernel_rfl, by kernel_rfl, by decide⟩ rfl (by decide +kernel) (by decide +kernel) (by decide +kernel) (fun _ _ _ h => h) (Or.inl ⟨by rfl, ?hb_4⟩) HS0.out ?rb_4
      case hb_4 =>
        intro W hW
        obtain ⟨s0, s1, s2, s3, s4, s5, s6⟩ := hW
        go_simp
        try with_reducible rfl
      go_frame
      refine late_one (i := 5) rfl (by kernel_rfl) (by kernel_rfl) (fun K hK => ?_)
      have HK := Lib.hid hK
      clear hK
      refine op_enter (by rfl) 171 #[.int .i64 op] (by kernel_rfl) ((argsOf_any op _).mono ?_)
      rintro e w4 ⟨rfl, rfl⟩
      refine ⟨_, rfl, HK.out _ _ HS0.out ?_⟩
      clear HK
      go_frame
      refine late_take (i := 6) (v := .bool false) ⟨by kernel_rfl, by kernel_rfl, by kernel_rfl, by decide⟩ rfl (by decide +kernel) (by decide +kernel) (by decide +kernel) (fun _ _ _ h => h) (Or.inl ⟨by rfl, ?hb_6⟩) HS0.out ?rb_6
      case hb_6 =>
        intro W hW
        obtain ⟨s0, s1, s2, s3, s4, s5, s6⟩ := hW
        go_simp
        try rw [hne]
        try with_reducible rfl
      go_frame
      refine late_take (i := 7) (v := ?vb_7) ⟨by kernel_rfl, by kernel_rfl, by kernel_rfl, by decide⟩ rfl (by decide +kernel) (by decide +kernel) (by decide +kernel) (fun _ _ _ h => h) (Or.inl ⟨by rfl, ?hb_7⟩) HS0.out ?rb_7
      case hb_7 =>
        intro W hW
        obtain ⟨s0, s1, s2, s3, s4, s5, s6⟩ := hW
        go_simp
        try with_reducible rfl
      go_frame
      refine late_take (i := 8) (v := ?vb_8) ⟨by kernel_rfl, by kernel_rfl, by kernel_rfl, by decide⟩ rfl (by decide +kernel) (by decide +kernel) (by decide +kernel) (fun _ _ _ h => h) (Or.inl ⟨by rfl, ?hb_8⟩) HS0.out ?rb_8
      case hb_8 =>
        intro W hW
        obtain ⟨s0, s1, s2, s3, s4, s5, s6⟩ := hW
        go_simp
        try with_reducible rfl
      go_frame
      refine late_one (i := 9) rfl (by kernel_rfl) (by kernel_rfl) (fun K hK => ?_)
      have HK := Lib.hid hK
      clear hK
      refine op_enterG ?hw_9 154 #[.agg #[.int .i64 op, .int .i64 n, .int .i64 c, .slice pt ts.length tcap, .string arr, .slice ps subs.length scap, .slice pa args.length acap]] ?hr_9 ((exprMore_any op n c pt ps pa ts.length tcap subs.length scap args.length acap arr _).mono ?_)
      case hw_9 => kernel_rfl
      case hr_9 => kernel_rfl
      rintro e w4 ⟨rfl, hg⟩
      have HX4 := Lib.hid (heap_keep (heap_keep hX7 (grown_drew w3 none) (by simp)) hg (by simp))
      have G4 := Lib.hid (grownBy_trans (grown_drew w3 none) hg)
      obtain ⟨⟨z0, z1, z2, z3, z4, z5, z6⟩, zf⟩ := box7_cells HX4.out
      have HS0 : Hid ((fun W => W.cell? ⟨Xb, 0, none⟩ = some (.int .i64 op) ∧ W.cell? ⟨Xb, 1, none⟩ = some (.int .i64 n) ∧ W.cell? ⟨Xb, 2, none⟩ = some (.int .i64 c) ∧ W.cell? ⟨Xb, 3, none⟩ = some (.slice pt ts.length tcap) ∧ W.cell? ⟨Xb, 4, none⟩ = some (.string arr) ∧ W.cell? ⟨Xb, 5, none⟩ = some (.slice ps subs.length scap) ∧ W.cell? ⟨Xb, 6, none⟩ = some (.slice pa args.length acap)) w4) := ⟨z0, z1, z2, z3, z4, z5, z6⟩
      rw [hm]
      refine ⟨_, rfl, HK.out _ _ HS0.out ?_⟩
      clear HK hg
      go_frame
      refine late_take (i := 10) (v := ?vb_10) ⟨by kernel_rfl, by kernel_rfl, by kernel_rfl, by decide⟩ rfl (by decide +kernel) (by decide +kernel) (by decide +kernel) (fun _ _ _ h => h) (Or.inl ⟨by rfl, ?hb_10⟩) HS0.out ?rb_10
      case hb_10 =>
        intro W hW
        obtain ⟨s0, s1, s2, s3, s4, s5, s6⟩ := hW
        go_simp
        try with_reducible rfl
      go_frame
      refine late_done (by decide +kernel) ?_
      simp only [List.drop_succ_cons, List.drop_zero]
      go_wp2_with fail
      go_meet
      case rel => exact ⟨by rw [hne, hm]; rfl, G4.out⟩
  case rest =>
  obtain ⟨rfl, K3⟩ := hcut
  have HG5 := Lib.hid (grownBy_trans HG3.out K3.out)
  have HE5 := Lib.hid (HE3.out.kept K3.out)
  have hX5 := heap_keep hX7 K3.out (by simp)
  obtain ⟨⟨y0, y1, y2, y3, y4, y5, y6⟩, yf⟩ := box7_cells hX5
  have p5 := box1_cell (heap_keep HPb.out K3.out (by simp))
  have HP5 := Lib.hid (heap_keep HPb.out K3.out (by simp))
  have HQ5 := Lib.hid (heap_keep HQb.out K3.out (by simp))
  have hd12 : d ≤ 12 := by omega
  clear x0 x1 x2 x3 x4 x5 x6 xf p0 q0 hX7 hX5 HE3 HPb HQb
  by_cases hb : (args.length : Int) ≠ argsN op ∨ moreE op n c ts.length arr subs.length = true
  · have hbb : (((args.length : Int) != argsN op) || moreE op n c ts.length arr subs.length) = true := by
      rcases hb with h | h
      · simp [h]
      · simp [h]
    rw [if_pos hb] at hval
    subst hval
    rw [hbb]
    go_wp2
    go_ret
    exact ⟨rfl, HG5.out⟩
  rw [if_neg hb] at hval
  have hbb : (((args.length : Int) != argsN op) || moreE op n c ts.length arr subs.length) = false := by
    rw [not_or] at hb
    obtain ⟨h, h'⟩ := hb
    simp at h h'
    simp [h, h']
  rw [hbb]
  clear hb hbb
  by_cases h4 : n < 0 ∨ 1000003 ≤ n
  · rw [if_pos h4] at hval
    subst hval
    go_wp2
    all_goals first
      | (go_ret; exact ⟨rfl, HG5.out⟩)
      | (exfalso; omega)
  rw [if_neg h4] at hval
  have h4a : ¬ n < 0 := by omega
  have h4b : ¬ 1000003 ≤ n := by omega
  by_cases h5 : op = 2
  · subst h5
    rw [if_pos rfl] at hval
    subst hval
    go_wp2_with (go_at_call 157; go_must (refine (chkForm_any c ts _ _ HE5.out.chk HE5.out.loops hXl (HT.out.kept HG5.out)).mono ?_; rintro e w6 ⟨rfl, hg⟩; have HG6 := Lib.hid (grownBy_trans HG5.out hg); clear hg))
    go_ret
    exact ⟨rfl, HG6.out⟩
  rw [if_neg h5] at hval
  have h5a : (op == 2) = false := by simpa using h5
  by_cases h6 : op = 3
  · subst h6
    rw [if_pos rfl] at hval
    subst hval
    go_wp2_with (go_at_call 158; go_must (refine (chkPlace_any arr subs _ _ har HE5.out.chk HE5.out.dims hXd HE5.out.loops hXl (HS.out.kept HG5.out)).mono ?_; rintro e w6 ⟨rfl, hg⟩; have HG6 := Lib.hid (grownBy_trans HG5.out hg); clear hg))
    go_ret
    exact ⟨rfl, HG6.out⟩
  rw [if_neg h6] at hval
  have h6a : (op == 3) = false := by simpa using h6
  subst hval
  go_wp2_with (go_at_call 172; go_must (refine (chkExprs_any args HA.out d _ _ pa acap _ HP5.out HQ5.out HE5.out hd12 hal (exprL_kept HG5.out _ _ _ HL.out)).mono ?_; rintro e w6 ⟨rfl, hg⟩; have HG6 := Lib.hid (grownBy_trans HG5.out hg); clear hg))
  go_ret
  exact ⟨rfl, HG6.out⟩
mutual
theorem exprGood (hXd : TabIs Dd Xd) (hXl : SetIs Dl X) : ∀ x : ExprD, ExprGood C Bd Bs Bl kd kl cells steps Dd Dl Xd X x
  | .mk op n c ts arr subs args => chkExpr_step hXd hXl op n c ts arr subs args (exprsGood hXd hXl args)
theorem exprsGood (hXd : TabIs Dd Xd) (hXl : SetIs Dl X) : ∀ l : List ExprD, ∀ y ∈ l, ExprGood C Bd Bs Bl kd kl cells steps Dd Dl Xd X y
  | [], y, h => by cases h
  | x :: r, y, h => by
    rcases List.mem_cons.1 h with e | h2
    · rw [e]
      exact exprGood hXd hXl x
    · exact exprsGood hXd hXl r y h2
end
end Go.Proofs.YtblpknkgjkbacaaGreatDoor
