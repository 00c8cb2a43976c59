/-
 The checker's expressions, for every expression.
-/
import Derived.Test.YtblpknkgjkbacaaGreatDoorQ16
namespace Go.Proofs.YtblpknkgjkbacaaGreatDoor
set_option linter.unusedVariables false
open Go.RowKit Go.Maps Go.WideMaps
variable {w w' : World}
/-- The checker and its tables. -/
structure EnvAt (C Bd Bs Bl kd kl : Nat) (cells steps : Int) (Dd Dl : Table) (w : World) : Prop where
  chk : ChkAt w C Bd Bs Bl cells steps
  dims : MapAt w Bd kd Dd
  loops : SetAtB w Bl kl Dl
variable {C Bd Bs Bl kd kl : Nat} {cells steps : Int} {Dd Dl : Table} {Xd : ByteArray → Int} {X : ByteArray → Bool}
theorem EnvAt.kept (h : EnvAt C Bd Bs Bl kd kl cells steps Dd Dl w) (hg : w.grownBy w' none) : EnvAt C Bd Bs Bl kd kl cells steps Dd Dl w' := ⟨heap_keep h.chk hg (by simp), World.ownsMap.kept h.dims hg (by simp), World.ownsMap.kept h.loops hg (by simp)⟩
/-- The check of an expression says what is wrong with it. -/
def ExprGood (C Bd Bs Bl kd kl : Nat) (cells steps : Int) (Dd Dl : Table) (Xd : ByteArray → Int) (X : ByteArray → Bool) (x : ExprD) : Prop :=
  ∀ (d : Nat) (w : World) (v0 v1 v2 v3 v4 v5 v6 : Value), EnvAt C Bd Bs Bl kd kl cells steps Dd Dl w → d ≤ 20 → ExprF w v0 v1 v2 v3 v4 v5 v6 x →
    Calls Tryz.prog 159 #[.pointer (some ⟨C, 0, none⟩), .agg #[v0, v1, v2, v3, v4, v5, v6], .int .i64 d] w (Gives (.int .i64 (exprE Dd Xd X d x)) w)
set_option maxRecDepth 100000 in
set_option maxHeartbeats 4000000 in
theorem exprFn_any (x : ExprD) (hx : ExprGood C Bd Bs Bl kd kl cells steps Dd Dl Xd X x) (d P Q : Nat) (w : World) (v0 v1 v2 v3 v4 v5 v6 : Value) (hP : w.heap[P]? = some (.cells #[.pointer (some ⟨C, 0, none⟩)] 132 (0, 0))) (hQ : w.heap[Q]? = some (.cells #[.int .i64 d] 3 (0, 0))) (hE : EnvAt C Bd Bs Bl kd kl cells steps Dd Dl w) (hd : d ≤ 12) (hF : ExprF w v0 v1 v2 v3 v4 v5 v6 x) :
    Calls Tryz.prog 173 #[.agg #[v0, v1, v2, v3, v4, v5, v6], .pointer (some ⟨P, 0, none⟩), .pointer (some ⟨Q, 0, none⟩)] w (Gives (.int .i64 (exprE Dd Xd X (d + 1) x)) w) := by
  obtain ⟨op, n, c, ts, arr, subs, args⟩ := x
  have hF2 := hF
  unfold ExprF at hF2
  obtain ⟨⟨rfl, _, _⟩, ⟨rfl, _, _⟩, ⟨rfl, _, _⟩, ⟨pt, tcap, rfl, _⟩, ⟨rfl, _⟩, ⟨ps, scap, rfl, _⟩, pa, acap, rfl, _⟩ := hF2
  have HF := Lib.hid hF
  have HE := Lib.hid hE
  have hX := hx
  clear hF hE hx
  go_enter Tryz.func173, Tryz.ntmps173
  have hg := World.grownBy_alloc w (.cells #[.int .i64 op, .int .i64 n, .int .i64 c, .slice pt ts.length tcap, .string arr, .slice ps subs.length scap, .slice pa args.length acap] 93) none
  obtain ⟨⟨x0, x1, x2, x3, x4, x5, x6⟩, xf⟩ := box7_cells (heap_alloc_new w (.cells #[.int .i64 op, .int .i64 n, .int .i64 c, .slice pt ts.length tcap, .string arr, .slice ps subs.length scap, .slice pa args.length acap] 93))
  have p0 : (w.alloc (.cells #[.int .i64 op, .int .i64 n, .int .i64 c, .slice pt ts.length tcap, .string arr, .slice ps subs.length scap, .slice pa args.length acap] 93)).cell? ⟨P, 0, none⟩ = some (.pointer (some ⟨C, 0, none⟩)) := hg.cell (by unfold World.cell?; rw [hP]; rfl) (by simp)
  have q0 : (w.alloc (.cells #[.int .i64 op, .int .i64 n, .int .i64 c, .slice pt ts.length tcap, .string arr, .slice ps subs.length scap, .slice pa args.length acap] 93)).cell? ⟨Q, 0, none⟩ = some (.int .i64 d) := hg.cell (by unfold World.cell?; rw [hQ]; rfl) (by simp)
  have HG := Lib.hid hg
  have HK := Lib.hid hX
  clear hg hX
  go_wp2_with (go_at_call 159; go_must (refine (HK.out (d + 1) _ _ _ _ _ _ _ _ (HE.out.kept HG.out) (by omega) (exprF_kept HG.out _ _ _ _ _ _ _ _ HF.out)).mono ?_; rintro e w1 ⟨rfl, hg⟩; have G1 := Lib.hid (grownBy_trans HG.out hg); clear hg))
  go_ret
  exact ⟨rfl, G1.out⟩
set_option maxRecDepth 100000 in
set_option maxHeartbeats 4000000 in
theorem chkExprs_any (l : List ExprD) (hg : ∀ x ∈ l, ExprGood C Bd Bs Bl kd kl cells steps Dd Dl Xd X x) (d P Q : Nat) (p : Option Addr) (cap : Nat) (w : World) (hP : w.heap[P]? = some (.cells #[.pointer (some ⟨C, 0, none⟩)] 132 (0, 0))) (hQ : w.heap[Q]? = some (.cells #[.int .i64 d] 3 (0, 0))) (hE : EnvAt C Bd Bs Bl kd kl cells steps Dd Dl w) (hd : d ≤ 12) (hl : l.length ≤ 1000000) (hL : ExprL w p 0 l) :
    Calls Tryz.prog 172 #[.slice p l.length cap, .func (.func 173) #[] #[.pointer (some ⟨P, 0, none⟩), .pointer (some ⟨Q, 0, none⟩)]] w (Gives (.int .i64 (exprsE Dd Xd X (d + 1) l)) w) := by
  have HP := Lib.hid hP
  have HQ := Lib.hid hQ
  have HE := Lib.hid hE
  have HL := Lib.hid hL
  have HX := Lib.hid hg
  have hlen : (l.length : Int) ≤ 9223372036854775807 := by omega
  clear hP hQ hE hL hg
  generalize hEq : exprsE Dd Xd X (d + 1) l = E
  go_enter Tryz.func172, Tryz.ntmps172
  go_wp2
  go_loopw [10] (fun i wr => ∃ k : Nat, k ≤ l.length ∧ i = .int .i64 k ∧ Hid (w.grownBy wr none) ∧ Hid (exprsE Dd Xd X (d + 1) (l.drop k) = E)) (fun i _ => l.length - (intOf i).toNat)
  case atStart => exact ⟨0, Nat.zero_le _, rfl, grownBy_refl _ _, hEq⟩
  case round =>
    obtain ⟨k, hk, rfl, HG, HR⟩ := hrel
    by_cases hlt : k < l.length
    · have h0 := List.getElem?_eq_getElem hlt
      obtain ⟨b, off, v0, v1, v2, v3, v4, v5, v6, hp, h7, hF⟩ := exprL_at HL.out h0
      have HD := Lib.hid (exprsE_drop (Dd := Dd) (Xd := Xd) (X := X) (d := d + 1) h0)
      have HGx := Lib.hid (HX.out _ (List.getElem_mem hlt))
      generalize l[k] = x at *
      subst hp
      rw [Nat.zero_add] at h7
      have hkI : (k : Int) < (l.length : Int) := by omega
      obtain ⟨y0, y1, y2, y3, y4, y5, y6⟩ := h7.kept HG.out
      obtain ⟨op, n, c, ts, arr, subs, args⟩ := x
      have HF := Lib.hid hF
      unfold ExprF at hF
      obtain ⟨⟨rfl, _, _⟩, ⟨rfl, _, _⟩, ⟨rfl, _, _⟩, ⟨pt, tcap, rfl, _⟩, ⟨rfl, _⟩, ⟨ps, scap, rfl, _⟩, pa, acap, rfl, _⟩ := hF
      have HGa := Lib.hid (grownBy_trans HG.out (World.grownBy_alloc wr (.cells #[.int .i64 op, .int .i64 n, .int .i64 c, .slice pt ts.length tcap, .string arr, .slice ps subs.length scap, .slice pa args.length acap] 93) none))
      obtain ⟨⟨x0, x1, x2, x3, x4, x5, x6⟩, xf⟩ := box7_cells (heap_alloc_new wr (.cells #[.int .i64 op, .int .i64 n, .int .i64 c, .slice pt ts.length tcap, .string arr, .slice ps subs.length scap, .slice pa args.length acap] 93))
      clear h0 h7
      go_wp2_with (go_at_call 173; go_must (refine (exprFn_any _ HGx.out d P Q _ _ _ _ _ _ _ _ (heap_keep HP.out HGa.out (by simp)) (heap_keep HQ.out HGa.out (by simp)) (HE.out.kept HGa.out) hd (exprF_kept HGa.out _ _ _ _ _ _ _ _ HF.out)).mono ?_; rintro e w2 ⟨rfl, hg⟩; have HG2 := Lib.hid (grownBy_trans HGa.out hg); clear hg))
      · rename_i hne
        have hne' : ¬ exprE Dd Xd X (d + 1) (.mk op n c ts arr subs args) = 0 := by simpa using hne
        have h6 := HD.out
        rw [if_neg hne', HR.out] at h6
        go_ret
        exact ⟨by rw [h6]; rfl, HG2.out⟩
      · rename_i heq
        have heq' : exprE Dd Xd X (d + 1) (.mk op n c ts arr subs args) = 0 := by simpa using heq
        have h6 := HD.out
        rw [if_pos heq', HR.out] at h6
        refine ⟨⟨k + 1, by omega, by go_num, HG2.out, h6.symm⟩, by simp [intOf]; omega⟩
    · obtain rfl : k = l.length := by omega
      have h2 := HR.out
      rw [List.drop_eq_nil_of_le (by simp)] at h2
      go_wp2
      go_ret
      exact ⟨by rw [← h2, exprsE]; rfl, HG.out⟩
end Go.Proofs.YtblpknkgjkbacaaGreatDoor
