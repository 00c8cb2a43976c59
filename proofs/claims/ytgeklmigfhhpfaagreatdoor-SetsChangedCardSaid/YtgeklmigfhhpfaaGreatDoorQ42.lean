/-
 Are sets equal, as they are written. Are forms, lists of them, and sets equal, as they are written.
-/
import Derived.Laws.StructEq
import Derived.BigQuiet
import Derived.Deep.QuietTactic
import Derived.Deep.DeepMust
import Derived.Test.YtgeklmigfhhpfaaGreatDoorQ15
namespace Go.Proofs.YtgeklmigfhhpfaaGreatDoor
open Go.RowKit
attribute [local go_sem ↓] Go.wp_at_zero Go.wp_at_succ
theorem neqSide_run (x y : SideD) (W : World) : (binOp .neq 63 (.agg #[.string x.1, .int .i64 x.2.1, .int .i64 x.2.2]) (.agg #[.string y.1, .int .i64 y.2.1, .int .i64 y.2.2])).run Tryz.prog W = .ok (.bool (!(decide (x = y)))) W := by
 obtain ⟨a, b, c⟩ := x
 obtain ⟨d, e, f⟩ := y
 simp only
 rw [run_neq_struct, show (10000 : Nat) = 9999 + 1 from rfl, run_equalIn_agg W 9999 63 _ _ (by kernel_rfl) (by kernel_rfl)]
 by_cases h1 : a = d
 · subst h1
   by_cases h2 : b = e
   · subst h2
     by_cases h3 : c = f
     · subst h3
       simp [go_sem, Result.andThen]
     · simp [go_sem, Result.andThen, h3]
   · simp [go_sem, Result.andThen, h2]
 · have h1' : (a.toList == d.toList) = false := by
    cases hh : (a.toList == d.toList)
    · rfl
    · exact absurd (bytes_ext (eq_of_beq hh)) h1
   simp [go_sem, Result.andThen, h1, h1']
theorem neqTerm_run (x y : TermD) (W : World) : (binOp .neq 65 (.agg #[.string x.1, .int .i64 x.2]) (.agg #[.string y.1, .int .i64 y.2])).run Tryz.prog W = .ok (.bool (!(decide (x = y)))) W := by
 obtain ⟨a, b⟩ := x
 obtain ⟨d, e⟩ := y
 simp only
 rw [run_neq_struct, show (10000 : Nat) = 9999 + 1 from rfl, run_equalIn_agg W 9999 65 _ _ (by kernel_rfl) (by kernel_rfl)]
 by_cases h1 : a = d
 · subst h1
   by_cases h2 : b = e
   · subst h2
     simp [go_sem, Result.andThen]
   · simp [go_sem, Result.andThen, h2]
 · have h1' : (a.toList == d.toList) = false := by
    cases hh : (a.toList == d.toList)
    · rfl
    · exact absurd (bytes_ext (eq_of_beq hh)) h1
   simp [go_sem, Result.andThen, h1, h1']
def eqSideL (xs ys : List SideD) : Bool := decide (xs = ys)
set_option maxRecDepth 100000 in
set_option maxHeartbeats 4000000 in
theorem equalSides_any (xs ys : List SideD) (xv yv : Value) (w : World) (hx : SidesAt w xv xs) (hy : SidesAt w yv ys) :
  Calls Tryz.prog 78 #[xv, yv] w (Gives (.bool (eqSideL xs ys)) w) := by
 obtain ⟨px, cx, rfl, hxl, hxc⟩ := id hx
 obtain ⟨py, cy, rfl, hyl, hyc⟩ := id hy
 have HX := uH hxc
 have HY := uH hyc
 clear hx hy hxc hyc
 by_cases hl : xs.length = ys.length
 · have HL := uH hl
   have hl0 : ((xs.length : Int) != (ys.length : Int)) = false := by simp [hl]
   clear hl
   go_enter Tryz.func78, Tryz.ntmps78
   go_wp2
   go_loopw [13] (fun i wr => ∃ k : Nat, k ≤ xs.length ∧ i = .int .i64 k ∧ Hid (xs.take k = ys.take k) ∧ Hid (w.grownBy wr none)) (fun i _ => xs.length - (intOf i).toNat)
   case atStart => exact ⟨0, Nat.zero_le _, rfl, by show _ = _; rfl, gR _ _⟩
   case round =>
    obtain ⟨k, hk, rfl, HT, HG⟩ := hrel
    by_cases hlt : k < xs.length
    · have hlt2 : k < ys.length := by rw [← HL.out]; exact hlt
      have h0 := List.getElem?_eq_getElem hlt
      have h1 := List.getElem?_eq_getElem hlt2
      obtain ⟨bx, ox, rfl, q1, q2, q3, x1, x2, x3⟩ := (HX.out k _ h0).kept HG.out
      obtain ⟨by_, oy, rfl, q4, q5, q6, y1, y2, y3⟩ := (HY.out k _ h1).kept HG.out
      have HTx := uH (List.take_succ_eq_append_getElem hlt)
      have HTy := uH (List.take_succ_eq_append_getElem hlt2)
      have HNe : Hid (xs[k] ≠ ys[k] → xs ≠ ys) := fun h e => h (by subst e; rfl)
      generalize xs[k] = x at *
      generalize ys[k] = y at *
      have hI1 : (k : Int) < (xs.length : Int) := by omega
      have hI2 : (k : Int) < (ys.length : Int) := by omega
      clear h0 h1
      by_cases hxy : x = y
      · subst hxy
        have hneq : ∀ W, (binOp .neq 63 (.agg #[.string x.1, .int .i64 x.2.1, .int .i64 x.2.2]) (.agg #[.string x.1, .int .i64 x.2.1, .int .i64 x.2.2])).run Tryz.prog W = .ok (.bool false) W := fun W => by rw [neqSide_run]; simp
        go_upto_region 6 with fail
        go_region_held3 (fun W => W.cell? ⟨bx, ox + k * 3, none⟩ = some (.string x.1) ∧ W.cell? ⟨bx, ox + k * 3 + 1, none⟩ = some (.int .i64 x.2.1) ∧ W.cell? ⟨bx, ox + k * 3 + 2, none⟩ = some (.int .i64 x.2.2) ∧ W.cell? ⟨by_, oy + k * 3, none⟩ = some (.string x.1) ∧ W.cell? ⟨by_, oy + k * 3 + 1, none⟩ = some (.int .i64 x.2.1) ∧ W.cell? ⟨by_, oy + k * 3 + 2, none⟩ = some (.int .i64 x.2.2)) (go_keep) (fail)
        all_goals
         go_wp2
         go_roundw
         case rel => exact ⟨k + 1, by omega, by go_num, by show _ = _; rw [HTx.out, HTy.out, HT.out], gT HG.out (gD _ none)⟩
         case measure => simp [intOf]; omega
      · have hneq : ∀ W, (binOp .neq 63 (.agg #[.string x.1, .int .i64 x.2.1, .int .i64 x.2.2]) (.agg #[.string y.1, .int .i64 y.2.1, .int .i64 y.2.2])).run Tryz.prog W = .ok (.bool true) W := fun W => by rw [neqSide_run]; simp [hxy]
        have HF : Hid (eqSideL xs ys = false) := by unfold eqSideL; exact decide_eq_false (HNe.out hxy)
        go_upto_region 6 with fail
        go_region_held3 (fun W => W.cell? ⟨bx, ox + k * 3, none⟩ = some (.string x.1) ∧ W.cell? ⟨bx, ox + k * 3 + 1, none⟩ = some (.int .i64 x.2.1) ∧ W.cell? ⟨bx, ox + k * 3 + 2, none⟩ = some (.int .i64 x.2.2) ∧ W.cell? ⟨by_, oy + k * 3, none⟩ = some (.string y.1) ∧ W.cell? ⟨by_, oy + k * 3 + 1, none⟩ = some (.int .i64 y.2.1) ∧ W.cell? ⟨by_, oy + k * 3 + 2, none⟩ = some (.int .i64 y.2.2)) (go_keep) (fail)
        all_goals
         go_wp2
         go_ret
         exact ⟨ret_bool HF.out.symm, gT HG.out (gD _ none)⟩
    · obtain rfl : k = xs.length := by omega
      have HF : Hid (eqSideL xs ys = true) := by
       have h := HT.out
       rw [List.take_length, HL.out, List.take_length] at h
       unfold eqSideL
       exact decide_eq_true h
      go_wp2
      go_ret
      exact ⟨ret_bool HF.out.symm, HG.out⟩
 · have hl0 : ((xs.length : Int) != (ys.length : Int)) = true := by simp; omega
   have HF : Hid (eqSideL xs ys = false) := by unfold eqSideL; exact decide_eq_false (fun e => hl (by rw [e]))
   clear hl
   go_enter Tryz.func78, Tryz.ntmps78
   go_wp2
   go_ret
   exact ⟨ret_bool HF.out.symm, gR _ _⟩
def eqTermL (xs ys : List TermD) : Bool := decide (xs = ys)
set_option maxRecDepth 100000 in
set_option maxHeartbeats 4000000 in
theorem equalTerms_any (xs ys : List TermD) (xv yv : Value) (w : World) (hx : TermsAt w xv xs) (hy : TermsAt w yv ys) :
  Calls Tryz.prog 150 #[xv, yv] w (Gives (.bool (eqTermL xs ys)) w) := by
 obtain ⟨px, cx, rfl, hxl, hxc⟩ := id hx
 obtain ⟨py, cy, rfl, hyl, hyc⟩ := id hy
 have HX := uH hxc
 have HY := uH hyc
 clear hx hy hxc hyc
 by_cases hl : xs.length = ys.length
 · have HL := uH hl
   have hl0 : ((xs.length : Int) != (ys.length : Int)) = false := by simp [hl]
   clear hl
   go_enter Tryz.func150, Tryz.ntmps150
   go_wp2
   go_loopw [13] (fun i wr => ∃ k : Nat, k ≤ xs.length ∧ i = .int .i64 k ∧ Hid (xs.take k = ys.take k) ∧ Hid (w.grownBy wr none)) (fun i _ => xs.length - (intOf i).toNat)
   case atStart => exact ⟨0, Nat.zero_le _, rfl, by show _ = _; rfl, gR _ _⟩
   case round =>
    obtain ⟨k, hk, rfl, HT, HG⟩ := hrel
    by_cases hlt : k < xs.length
    · have hlt2 : k < ys.length := by rw [← HL.out]; exact hlt
      have h0 := List.getElem?_eq_getElem hlt
      have h1 := List.getElem?_eq_getElem hlt2
      obtain ⟨bx, ox, rfl, q1, q2, q3, x1, x2⟩ := (HX.out k _ h0).kept HG.out
      obtain ⟨by_, oy, rfl, q4, q5, q6, y1, y2⟩ := (HY.out k _ h1).kept HG.out
      have HTx := uH (List.take_succ_eq_append_getElem hlt)
      have HTy := uH (List.take_succ_eq_append_getElem hlt2)
      have HNe : Hid (xs[k] ≠ ys[k] → xs ≠ ys) := fun h e => h (by subst e; rfl)
      generalize xs[k] = x at *
      generalize ys[k] = y at *
      have hmx : xs.length ≤ 9223372036854775807 := by have h := ‹xs.length ≤ maxLen›; unfold maxLen at h; omega
      have hI1 : (k : Int) < (xs.length : Int) := by omega
      have hI2 : (k : Int) < (ys.length : Int) := by omega
      clear h0 h1
      by_cases hxy : x = y
      · subst hxy
        have hneq : ∀ W, (binOp .neq 65 (.agg #[.string x.1, .int .i64 x.2]) (.agg #[.string x.1, .int .i64 x.2])).run Tryz.prog W = .ok (.bool false) W := fun W => by rw [neqTerm_run]; simp
        go_upto_region 6 with fail
        go_region_held3 (fun W => W.cell? ⟨bx, ox + k * 2, none⟩ = some (.string x.1) ∧ W.cell? ⟨bx, ox + k * 2 + 1, none⟩ = some (.int .i64 x.2) ∧ W.cell? ⟨by_, oy + k * 2, none⟩ = some (.string x.1) ∧ W.cell? ⟨by_, oy + k * 2 + 1, none⟩ = some (.int .i64 x.2)) (go_keep) (fail)
        all_goals
         go_wp2
         go_roundw
         case rel => exact ⟨k + 1, by omega, by go_num, by show _ = _; rw [HTx.out, HTy.out, HT.out], gT HG.out (gD _ none)⟩
         case measure => simp [intOf]; omega
      · have hneq : ∀ W, (binOp .neq 65 (.agg #[.string x.1, .int .i64 x.2]) (.agg #[.string y.1, .int .i64 y.2])).run Tryz.prog W = .ok (.bool true) W := fun W => by rw [neqTerm_run]; simp [hxy]
        have HF : Hid (eqTermL xs ys = false) := by unfold eqTermL; exact decide_eq_false (HNe.out hxy)
        go_upto_region 6 with fail
        go_region_held3 (fun W => W.cell? ⟨bx, ox + k * 2, none⟩ = some (.string x.1) ∧ W.cell? ⟨bx, ox + k * 2 + 1, none⟩ = some (.int .i64 x.2) ∧ W.cell? ⟨by_, oy + k * 2, none⟩ = some (.string y.1) ∧ W.cell? ⟨by_, oy + k * 2 + 1, none⟩ = some (.int .i64 y.2)) (go_keep) (fail)
        all_goals
         go_wp2
         go_ret
         exact ⟨ret_bool HF.out.symm, gT HG.out (gD _ none)⟩
    · obtain rfl : k = xs.length := by omega
      have HF : Hid (eqTermL xs ys = true) := by
       have h := HT.out
       rw [List.take_length, HL.out, List.take_length] at h
       unfold eqTermL
       exact decide_eq_true h
      go_wp2
      go_ret
      exact ⟨ret_bool HF.out.symm, HG.out⟩
 · have hl0 : ((xs.length : Int) != (ys.length : Int)) = true := by simp; omega
   have HF : Hid (eqTermL xs ys = false) := by unfold eqTermL; exact decide_eq_false (fun e => hl (by rw [e]))
   clear hl
   go_enter Tryz.func150, Tryz.ntmps150
   go_wp2
   go_ret
   exact ⟨ret_bool HF.out.symm, gR _ _⟩
end Go.Proofs.YtgeklmigfhhpfaaGreatDoor
namespace Go.Proofs.YtgeklmigfhhpfaaGreatDoor
open Go.RowKit
attribute [local go_sem ↓] Go.wp_at_zero Go.wp_at_succ
def eqForm (f g : CondD) : Bool := decide (f = g)
def eqForms (l m : List CondD) : Bool := decide (l = m)
def eqSet (S T : List SideD × List CondD) : Bool := decide (S = T)
set_option maxHeartbeats 1000000 in
theorem sameForm_any (f g : CondD) (tv uv : Value) (w : World) (ht : TermsAt w tv f.2) (hu : TermsAt w uv g.2) :
  Calls Tryz.prog 121 #[.agg #[.int .i64 f.1, tv], .agg #[.int .i64 g.1, uv]] w (Gives (.bool (eqForm f g)) w) := by
 obtain ⟨c, ts⟩ := f
 obtain ⟨d, us⟩ := g
 simp only at ht hu ⊢
 have HT := uH ht
 have HU := uH hu
 have HE : Hid (eqForm (c, ts) (d, us) = (decide (c = d) && eqTermL ts us)) := by
  show _ = _
  unfold eqForm eqTermL
  rw [Bool.eq_iff_iff]
  simp
 clear ht hu
 by_cases h : c = d
 · subst h
   have hcc : (c == c) = true := by simp
   have HE2 : Hid (eqForm (c, ts) (c, us) = eqTermL ts us) := by
    have h := HE.out
    simp only [decide_true, Bool.true_and] at h
    exact h
   go_enter Tryz.func121, Tryz.ntmps121
   go_wp2_with (go_at_call 150; go_must (refine (equalTerms_any ts us _ _ _ (HT.out.kept (gT (gA _ _ _) (gA _ _ _))) (HU.out.kept (gT (gA _ _ _) (gA _ _ _)))).mono ?_; rintro e w' ⟨rfl, hg1⟩; have G1 := uH (gT (gA _ _ _) (gT (gA _ _ _) hg1)); clear hg1))
   go_ret
   exact ⟨ret_bool HE2.out.symm, G1.out⟩
 · have hcc : (c == d) = false := by simp [h]
   have HE2 : Hid (eqForm (c, ts) (d, us) = false) := by
    have h2 := HE.out
    rw [decide_eq_false h, Bool.false_and] at h2
    exact h2
   clear h
   go_enter Tryz.func121, Tryz.ntmps121
   go_wp2
   go_ret
   exact ⟨ret_bool HE2.out.symm, gT (gA _ _ _) (gA _ _ _)⟩
set_option maxRecDepth 100000 in
set_option maxHeartbeats 2000000 in
theorem equalForms_any (v u : Value) (l m : List CondD) (w : World) (hl : CondsAt w v l) (hm : CondsAt w u m) :
  Calls Tryz.prog 120 #[v, u, .func (.func 121) #[] #[]] w (Gives (.bool (eqForms l m)) w) := by
 obtain ⟨p, cap, rfl, hlen, hc⟩ := hl
 obtain ⟨q, qap, rfl, hlem, hd⟩ := hm
 have H := uH hc
 have D := uH hd
 clear hc hd
 by_cases he : l.length = m.length
 · have HL := uH he
   have hl0 : ((l.length : Int) != (m.length : Int)) = false := by simp [he]
   clear he
   go_enter Tryz.func120, Tryz.ntmps120
   go_wp2
   go_loopw [17] (fun i wr => ∃ k : Nat, k ≤ l.length ∧ i = .int .i64 k ∧ Hid (l.take k = m.take k) ∧ Hid (w.grownBy wr none)) (fun i _ => l.length - (intOf i).toNat)
   case atStart => exact ⟨0, Nat.zero_le _, rfl, by show _ = _; rfl, gR _ _⟩
   case round =>
    obtain ⟨k, hk, rfl, HR, HG⟩ := hrel
    by_cases hlt : k < l.length
    · have hlt2 : k < m.length := by rw [← HL.out]; exact hlt
      have h0 := List.getElem?_eq_getElem hlt
      have h1 := List.getElem?_eq_getElem hlt2
      obtain ⟨b, off, tv, rfl, x1, x2, x3, x4, x5⟩ := (H.out k _ h0).kept HG.out
      obtain ⟨b2, off2, uv, rfl, y1, y2, y3, y4, y5⟩ := (D.out k _ h1).kept HG.out
      have HTx := uH (List.take_succ_eq_append_getElem hlt)
      have HTy := uH (List.take_succ_eq_append_getElem hlt2)
      have HNe : Hid (l[k] ≠ m[k] → l ≠ m) := fun h e => h (by subst e; rfl)
      have X3 := uH x3
      have Y3 := uH y3
      obtain ⟨pt, tcap, rfl, _⟩ := id x3
      obtain ⟨pu, ucap, rfl, _⟩ := id y3
      generalize l[k] = x at *
      generalize m[k] = y at *
      have HGa := gA wr (.cells #[.int .i64 x.1, .slice pt x.2.length tcap] 35) none
      have y1a := HGa.cell y1 (by simp)
      have y2a := HGa.cell y2 (by simp)
      have hI1 : (k : Int) < (l.length : Int) := by omega
      have hI2 : (k : Int) < (m.length : Int) := by omega
      clear h0 h1 x3 y3 HGa
      by_cases hxy : x = y
      · have HF : Hid (eqForm x y = true) := by unfold eqForm; exact decide_eq_true hxy
        have HXY := uH hxy
        clear hxy
        go_wp2_with (first | (go_at_call 121; go_must (refine (sameForm_any x y _ _ _ (X3.out.kept (gT (gA _ _ _) (gA _ _ _))) (Y3.out.kept (gT (gA _ _ _) (gA _ _ _)))).mono ?_; rintro e w' ⟨rfl, hg1⟩; rw [HF.out]; have G1 := uH (gT (gA _ _ _) (gT (gA _ _ _) hg1)); clear hg1)))
        go_roundw
        case rel => exact ⟨k + 1, by omega, by go_num, by show _ = _; rw [HTx.out, HTy.out, HR.out, HXY.out], gT HG.out G1.out⟩
        case measure => simp [intOf]; omega
      · have HF : Hid (eqForm x y = false) := by unfold eqForm; exact decide_eq_false hxy
        have HM := uH (HNe.out hxy)
        clear hxy
        go_wp2_with (first | (go_at_call 121; go_must (refine (sameForm_any x y _ _ _ (X3.out.kept (gT (gA _ _ _) (gA _ _ _))) (Y3.out.kept (gT (gA _ _ _) (gA _ _ _)))).mono ?_; rintro e w' ⟨rfl, hg1⟩; rw [HF.out]; have G1 := uH (gT (gA _ _ _) (gT (gA _ _ _) hg1)); clear hg1)))
        go_ret
        exact ⟨ret_bool (by unfold eqForms; exact (decide_eq_false HM.out).symm), gT HG.out G1.out⟩
    · obtain rfl : k = l.length := by omega
      have HF : Hid (eqForms l m = true) := by
       have h := HR.out
       rw [List.take_length, HL.out, List.take_length] at h
       unfold eqForms
       exact decide_eq_true h
      go_wp2
      go_ret
      exact ⟨ret_bool HF.out.symm, HG.out⟩
 · have hl0 : ((l.length : Int) != (m.length : Int)) = true := by simp; omega
   have HF : Hid (eqForms l m = false) := by unfold eqForms; exact decide_eq_false (fun e => he (by rw [e]))
   clear he
   go_enter Tryz.func120, Tryz.ntmps120
   go_wp2
   go_ret
   exact ⟨ret_bool HF.out.symm, gR _ _⟩
theorem sameForms_any (v u : Value) (l m : List CondD) (w : World) (hl : CondsAt w v l) (hm : CondsAt w u m) :
  Calls Tryz.prog 79 #[v, u] w (Gives (.bool (eqForms l m)) w) := by
 have HL := uH hl
 have HM := uH hm
 clear hl hm
 go_enter Tryz.func79, Tryz.ntmps79
 go_wp2_with (go_at_call 120; go_must (refine (equalForms_any _ _ l m _ HL.out HM.out).mono ?_; rintro e w' ⟨rfl, hg1⟩; have G1 := uH hg1; clear hg1))
 go_ret
 exact ⟨rfl, G1.out⟩
set_option maxHeartbeats 1000000 in
theorem sameSet_any (S T : List SideD × List CondD) (sv cv tv dv : Value) (w : World) (hS : SetAt w sv cv S) (hT : SetAt w tv dv T) :
  Calls Tryz.prog 27 #[.agg #[sv, cv], .agg #[tv, dv]] w (Gives (.bool (eqSet S T)) w) := by
 obtain ⟨l, c⟩ := S
 obtain ⟨m, d⟩ := T
 have HS := uH hS
 have HT := uH hT
 have HE : Hid (eqSet (l, c) (m, d) = (eqSideL l m && eqForms c d)) := by
  show _ = _
  unfold eqSet eqSideL eqForms
  rw [Bool.eq_iff_iff]
  simp
 have HG := uH (gT (gA w (.cells #[sv, cv] 29) none) (gA _ (.cells #[tv, dv] 29) none))
 clear hS hT
 cases h : eqSideL l m
 · have HL := uH h
   clear h
   go_enter Tryz.func27, Tryz.ntmps27
   go_wp2_with (go_at_call 78; go_must (refine (equalSides_any l m _ _ _ (HS.out.1.kept HG.out) (HT.out.1.kept HG.out)).mono ?_; rintro e w' ⟨rfl, hg1⟩; rw [HL.out]; have G1 := uH hg1; clear hg1))
   go_ret
   exact ⟨ret_bool (by rw [HE.out, HL.out]; rfl), gT HG.out G1.out⟩
 · have HL := uH h
   clear h
   obtain ⟨ps, scap, rfl, _⟩ := id HS.out.1
   obtain ⟨pt, tcap, rfl, _⟩ := id HT.out.1
   obtain ⟨pc, ccap, rfl, _⟩ := id HS.out.2
   obtain ⟨pd, dcap, rfl, _⟩ := id HT.out.2
   go_enter Tryz.func27, Tryz.ntmps27
   go_wp2_with (first
    | (go_at_call 78; go_must (refine (equalSides_any l m _ _ _ (HS.out.1.kept HG.out) (HT.out.1.kept HG.out)).mono ?_; rintro e w' ⟨rfl, hg1⟩; rw [HL.out]; have G1 := uH hg1; have s1 : w'.cell? ⟨w.heap.size, 1, none⟩ = some (.slice pc c.length ccap) := hg1.cell (by simp) (by simp); have t1 : w'.cell? ⟨w.heap.size + 1, 1, none⟩ = some (.slice pd d.length dcap) := hg1.cell (by simp) (by simp); clear hg1))
    | (go_at_call 79; go_must (refine (sameForms_any _ _ c d _ (HS.out.2.kept (gT HG.out G1.out)) (HT.out.2.kept (gT HG.out G1.out))).mono ?_; rintro e w'' ⟨rfl, hg2⟩; have G2 := uH hg2; clear hg2)))
   go_ret
   exact ⟨ret_bool (by rw [HE.out, HL.out]; rfl), gT HG.out (gT G1.out G2.out)⟩
end Go.Proofs.YtgeklmigfhhpfaaGreatDoor
