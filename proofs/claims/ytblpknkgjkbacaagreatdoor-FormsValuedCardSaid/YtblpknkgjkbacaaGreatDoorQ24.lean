/-
 The checker's statements. The checker's conditions and loops, for bodies that are checked.
-/
import Derived.Maps.OwnSet
import Derived.Deep.RegionHeld3
import Derived.StillTailTactics
import Derived.Test.YtblpknkgjkbacaaGreatDoorQ19
import Derived.Test.YtblpknkgjkbacaaGreatDoorQ21
import Derived.Test.YtblpknkgjkbacaaGreatDoorQ23
namespace Go.Proofs.YtblpknkgjkbacaaGreatDoor
set_option linter.unusedVariables false
open Go.RowKit Go.Maps Go.WideMaps
variable {w w' : World} {C Bd Bs Bl kd : Nat} {cells steps : Int} {Dd : Table} {Xd : ByteArray → Int} {X S : ByteArray → Bool}
/-- A call that checks: its error; how many steps there are then, and which statements. -/
def Checks (C Bd Bs Bl kd : Nat) (cells : Int) (Dd : Table) (X : ByteArray → Bool) (r : Int × Int × (ByteArray → Bool)) (w : World) (e : Ending) (w' : World) : Prop :=
  e = .returned (.int .i64 r.1) ∧ But C Bs Bl w w' ∧ EnvS C Bd Bs Bl kd cells Dd X r.2.2 r.2.1 w'
theorem SetIs.cong {D : Table} {X Y : ByteArray → Bool} (h : SetIs D X) (hx : ∀ n, X n = Y n) : SetIs D Y := ⟨h.map, fun n => by rw [← hx n]; exact h.at_ n⟩
theorem SetIs.del {D : Table} {X : ByteArray → Bool} (h : SetIs D X) (n : ByteArray) : SetIs (D.del (strL n)) (fun m => if m = n then false else X m) := by
  refine ⟨h.map.del _, fun m => ?_⟩
  by_cases e : m = n
  · subst e
    rw [if_pos rfl]
    exact atKey_del_same _
  · rw [if_neg e, atKey_del_other (fun e2 => e (strL_inj e2))]
    exact h.at_ m
/-- What a statement's check says. -/
def stmtR (Dd : Table) (Xd : ByteArray → Int) (X S : ByteArray → Bool) (n : Int) (name arr : ByteArray) (subs : List CondD) (x : ExprD) : Int × Int × (ByteArray → Bool) :=
  if S name = true then (6, n, S) else if placeE Dd Xd X arr subs ≠ 0 then (placeE Dd Xd X arr subs, n, insB S name) else (exprE Dd Xd X 1 x, n, insB S name)
theorem namesIs {B : Nat} {m : Int} (h : NamesAt w B S m) {n : ByteArray} (hs : n.size ≤ maxLen) : (Instr.lookup 137 (.map (some B)) (.string n) false).run Tryz.prog w = .ok (.bool (S n)) w := by
  obtain ⟨k, D, h1, h2, _⟩ := h
  exact setB_look h1 h2 hs
set_option maxRecDepth 100000 in
set_option maxHeartbeats 8000000 in
theorem chkStmt_any (hXd : TabIs Dd Xd) (kind : Int) (name : ByteArray) (low high : List BoundD) (conds : List CondD) (body : List StepD) (arr : ByteArray) (subs : List CondD) (x : ExprD) (vs : List Value) (w : World) (hE : EnvS C Bd Bs Bl kd cells Dd X S steps w) (hS : NamesAt w Bs S (steps - 1)) (hn : steps ≤ 300000) (hF : StepF w vs (.mk kind name low high conds body arr subs x)) :
    Calls Tryz.prog 139 #[.pointer (some ⟨C, 0, none⟩), .agg vs.toArray] w (Checks C Bd Bs Bl kd cells Dd X (stmtR Dd Xd X S steps name arr subs x) w) := by
  have hF2 := hF
  unfold StepF at hF2
  obtain ⟨vlo, vhi, vcs, p5, k5, vsb, e0, e1, e2, e3, e4, e5, e6, rfl, -, hns, hlo, hhi, hcs, has, hsb, hx, hbl, -⟩ := hF2
  obtain ⟨p2, k2, rfl, -, -⟩ := hlo
  obtain ⟨p3, k3, rfl, -, -⟩ := hhi
  obtain ⟨p4, k4, rfl, -, -⟩ := hcs
  have HSb := Lib.hid hsb
  obtain ⟨p7, k7, rfl, -, -⟩ := hsb
  have HX := Lib.hid hx
  obtain ⟨op, n, c, ts, xa, xs, args⟩ := x
  unfold ExprF at hx
  obtain ⟨⟨rfl, -⟩, ⟨rfl, -⟩, ⟨rfl, -⟩, ⟨p11, k11, rfl, -⟩, ⟨rfl, -⟩, ⟨p13, k13, rfl, -⟩, p14, k14, rfl, -⟩ := hx
  have HE := Lib.hid hE
  clear hF hE
  have hg0 := World.grownBy_alloc w (.cells #[.int .i64 kind, .string name, .slice p2 low.length k2, .slice p3 high.length k3, .slice p4 conds.length k4, .slice p5 body.length k5, .string arr, .slice p7 subs.length k7, .int .i64 op, .int .i64 n, .int .i64 c, .slice p11 ts.length k11, .string xa, .slice p13 xs.length k13, .slice p14 args.length k14] 96) none
  have HB := Lib.hid (heap_alloc_new w (.cells #[.int .i64 kind, .string name, .slice p2 low.length k2, .slice p3 high.length k3, .slice p4 conds.length k4, .slice p5 body.length k5, .string arr, .slice p7 subs.length k7, .int .i64 op, .int .i64 n, .int .i64 c, .slice p11 ts.length k11, .string xa, .slice p13 xs.length k13, .slice p14 args.length k14] 96))
  have hlt := World.ownsMap.lt HE.out.dims
  have hCw : C < w.heap.size := (Array.getElem?_eq_some_iff.1 HE.out.chk).1
  have HG0 := Lib.hid hg0
  have HE0 := Lib.hid (HE.out.kept hg0)
  clear hg0
  go_enter Tryz.func139, Tryz.ntmps139
  go_upto_region 1 with fail
  generalize hw0 : w.alloc (.cells #[.int .i64 kind, .string name, .slice p2 low.length k2, .slice p3 high.length k3, .slice p4 conds.length k4, .slice p5 body.length k5, .string arr, .slice p7 subs.length k7, .int .i64 op, .int .i64 n, .int .i64 c, .slice p11 ts.length k11, .string xa, .slice p13 xs.length k13, .slice p14 args.length k14] 96) = w0 at *
  obtain ⟨⟨x0, x1, x2, x3, x4, x5, x6, x7, x8, x9, x10, x11, x12, x13, x14⟩, xf⟩ := box15_cells HB.out
  obtain ⟨c0, c1, c2, c3, c4, cf⟩ := HE0.out.chk.cells
  have hld : (Instr.lookup 137 (.map (some Bs)) (.string name) false).run Tryz.prog w0.drew = .ok (.bool (S name)) w0.drew := namesIs (HE0.out.sts.kept (grown_drew w0 none) (by simp)) hns
  go_region_held3 (fun W => W.cell? ⟨C, 2, none⟩ = some (.map (some Bs)) ∧ W.cell? ⟨w.heap.size, 1, none⟩ = some (.string name) ∧ (Instr.lookup 137 (.map (some Bs)) (.string name) false).run Tryz.prog W = .ok (.bool (S name)) W) (first
    | exact ⟨c2, x1, hld⟩
    | go_keep) (fail)
  have HG1 := Lib.hid (grownBy_trans HG0.out (grown_drew w0 none))
  have HB1 : Hid (w0.drew.heap[w.heap.size]? = some (.cells #[.int .i64 kind, .string name, .slice p2 low.length k2, .slice p3 high.length k3, .slice p4 conds.length k4, .slice p5 body.length k5, .string arr, .slice p7 subs.length k7, .int .i64 op, .int .i64 n, .int .i64 c, .slice p11 ts.length k11, .string xa, .slice p13 xs.length k13, .slice p14 args.length k14] 96 (0, 0))) := HB.out
  clear x0 x1 x2 x3 x4 x5 x6 x7 x8 x9 x10 x11 x12 x13 x14 xf c0 c1 c2 c3 c4 cf hld HB HG0 HE0
  generalize w0.drew = w1 at *
  have HE1 := Lib.hid (HE.out.kept HG1.out)
  have HS1 := Lib.hid (hS.kept HG1.out (by simp))
  have hsB : Bs < w.heap.size := by
    obtain ⟨k, D, h1, _⟩ := hS
    exact World.ownsMap.lt h1
  have hap := HE.out.apart
  have hne := HE.out.ne
  have HB1x := Lib.hid (show Go.World.grownBy w w1 none from HG1.out)
  cases hsn : S name with
  | true =>
    have HR : Hid (stmtR Dd Xd X S steps name arr subs (.mk op n c ts xa xs args) = (6, steps, S)) := by show _ = _; unfold stmtR; rw [if_pos hsn]
    go_wp2
    go_ret
    exact ⟨by rw [HR.out]; rfl, But.of_grown HG1.out, by rw [HR.out]; exact HE1.out⟩
  | false =>
  have HR0 : Hid (stmtR Dd Xd X S steps name arr subs (.mk op n c ts xa xs args) = if placeE Dd Xd X arr subs ≠ 0 then (placeE Dd Xd X arr subs, steps, insB S name) else (exprE Dd Xd X 1 (.mk op n c ts xa xs args), steps, insB S name)) := by show _ = _; unfold stmtR; rw [if_neg (by simp [hsn])]
  obtain ⟨⟨x0, x1, x2, x3, x4, x5, x6, x7, x8, x9, x10, x11, x12, x13, x14⟩, xf⟩ := box15_cells HB1.out
  obtain ⟨c0, c1, c2, c3, c4, cf⟩ := HE1.out.chk.cells
  go_upto_region 3 with fail
  go_still_tail 6, (by kernel_rfl)
  change wpList _ _ _ _ _ w1.drew
  have HG2 := Lib.hid (grownBy_trans HG1.out (grown_drew w1 none))
  have HB2 : Hid (w1.drew.heap[w.heap.size]? = some (.cells #[.int .i64 kind, .string name, .slice p2 low.length k2, .slice p3 high.length k3, .slice p4 conds.length k4, .slice p5 body.length k5, .string arr, .slice p7 subs.length k7, .int .i64 op, .int .i64 n, .int .i64 c, .slice p11 ts.length k11, .string xa, .slice p13 xs.length k13, .slice p14 args.length k14] 96 (0, 0))) := HB1.out
  clear x0 x1 x2 x3 x4 x5 x6 x7 x8 x9 x10 x11 x12 x13 x14 xf c0 c1 c2 c3 c4 cf HB1 HG1 HE1 HS1 HB1x
  generalize w1.drew = w2 at *
  have HE2 := Lib.hid (HE.out.kept HG2.out)
  obtain ⟨ks, Ds, hown0, hset0, hks⟩ := hS.kept HG2.out (by simp)
  have HOw : Hid (SetAtB w2 Bs ks Ds) := hown0
  have HSe : Hid (SetIs (Ds.put (strL name) (litB true)) (insB S name)) := hset0.put name true
  clear hown0 hset0
  obtain ⟨⟨x0, x1, x2, x3, x4, x5, x6, x7, x8, x9, x10, x11, x12, x13, x14⟩, xf⟩ := box15_cells HB2.out
  obtain ⟨c0, c1, c2, c3, c4, cf⟩ := HE2.out.chk.cells
  go_upto_region 4 with (at_mapUpdate; refine wpList_mapUpdate_own _ rfl _ _ _ 137 rfl 9 4 Tryz.lawStr Tryz.underlying137 _ Bs ks Ds rfl HOw.out (by unfold maxLen; omega) _ _ _ rfl rfl (key_str hns) _ [] (plainElem_bool Tryz.underlying4 true) ?_; intro w3 hown hg3; have HO3 : Hid (SetAtB w3 Bs (ks + 1) (Ds.put (strL name) (litB true))) := hown; have HG3 := Lib.hid hg3; clear hown hg3)
  have HBu := Lib.hid ((But.of_grown (C := C) (Bs := Bs) (Bl := Bl) HG2.out).trans (But.of_one HG3.out (by omega)))
  have HE3 : Hid (EnvS C Bd Bs Bl kd cells Dd X (insB S name) steps w3) := ⟨heap_keep HE2.out.chk HG3.out (by simp; omega), World.ownsMap.kept HE2.out.dims HG3.out (by simp; omega), ⟨ks + 1, _, HO3.out, HSe.out, by omega⟩, HE2.out.loops.kept HG3.out (by simp; omega), HE2.out.ne⟩
  have HB3 := Lib.hid (heap_keep HB2.out HG3.out (by simp; omega))
  have hsafe := HE.out.safe HBu.out
  have HSb3 := Lib.hid (HSb.out.safe hsafe)
  have HX3 := Lib.hid (exprF_safe hsafe _ _ _ _ _ _ _ _ HX.out)
  clear x0 x1 x2 x3 x4 x5 x6 x7 x8 x9 x10 x11 x12 x13 x14 xf c0 c1 c2 c3 c4 cf HB2 HG2 HE2 hsafe HOw HSe HO3 HG3
  obtain ⟨⟨x0, x1, x2, x3, x4, x5, x6, x7, x8, x9, x10, x11, x12, x13, x14⟩, xf⟩ := box15_cells HB3.out
  obtain ⟨kl, Dl, hl1, hl2, -⟩ := HE3.out.loops
  have HL1 := Lib.hid hl1
  have HL2 := Lib.hid hl2
  clear hl1 hl2
  by_cases hp : placeE Dd Xd X arr subs = 0
  case neg =>
    have hp0 : (placeE Dd Xd X arr subs != 0) = true := by simpa using hp
    have HR := Lib.hid (HR0.out.trans (if_pos hp))
    go_wp2_with (go_at_call 158; go_must (refine (chkPlace_any arr subs _ _ has HE3.out.chk HE3.out.dims hXd HL1.out HL2.out HSb3.out).mono ?_; rintro e w4 ⟨rfl, hg⟩; have G4 := Lib.hid hg; clear hg))
    go_ret
    exact ⟨by rw [HR.out]; rfl, HBu.out.trans (But.of_grown G4.out), by rw [HR.out]; exact HE3.out.kept G4.out⟩
  case pos =>
    have hp0 : (placeE Dd Xd X arr subs != 0) = false := by simp [hp]
    have HR := Lib.hid (HR0.out.trans (if_neg (by simp [hp])))
    have HXg := Lib.hid (exprGood (C := C) (Bd := Bd) (Bs := Bs) (Bl := Bl) (kd := kd) (kl := kl) (cells := cells) (steps := steps) (Dd := Dd) (Dl := Dl) hXd HL2.out (.mk op n c ts xa xs args))
    go_wp2_with (first | (go_at_call 158; go_must (refine (chkPlace_any arr subs _ _ has HE3.out.chk HE3.out.dims hXd HL1.out HL2.out HSb3.out).mono ?_; rintro e w4 ⟨rfl, hg⟩; have G4 := Lib.hid hg; obtain ⟨⟨x0, x1, x2, x3, x4, x5, x6, x7, x8, x9, x10, x11, x12, x13, x14⟩, xf⟩ := box15_cells (heap_keep HB3.out hg (by simp)); clear hg)) | (go_at_call 159; go_must (refine (HXg.out 1 _ _ _ _ _ _ _ _ ⟨heap_keep HE3.out.chk G4.out (by simp), World.ownsMap.kept HE3.out.dims G4.out (by simp), World.ownsMap.kept HL1.out G4.out (by simp)⟩ (by omega) (exprF_kept G4.out _ _ _ _ _ _ _ _ HX3.out)).mono ?_; rintro e w5 ⟨rfl, hg⟩; have G5 := Lib.hid (grownBy_trans G4.out hg); clear hg)))
    go_ret
    exact ⟨by rw [HR.out]; rfl, HBu.out.trans (But.of_grown G5.out), by rw [HR.out]; exact HE3.out.kept G5.out⟩
end Go.Proofs.YtblpknkgjkbacaaGreatDoor
namespace Go.Proofs.YtblpknkgjkbacaaGreatDoor
open Go.RowKit Go.Maps Go.WideMaps
variable {w w' : World} {C Bd Bs Bl kd : Nat} {cells : Int} {Dd : Table} {Xd : ByteArray → Int}
/-- The check of some steps says what is wrong with them. -/
def BodyGood (C Bd Bs Bl kd : Nat) (cells : Int) (Dd : Table) (Xd : ByteArray → Int) (l : List StepD) : Prop :=
  ∀ (d : Nat) (X S : ByteArray → Bool) (n : Int) (w : World) (p : Option Addr) (cap : Nat), EnvS C Bd Bs Bl kd cells Dd X S n w → n ≤ 200000 → d ≤ 13 → l.length ≤ 1000000 → StepL w p 0 l →
    Calls Tryz.prog 83 #[.pointer (some ⟨C, 0, none⟩), .slice p l.length cap, .int .i64 d] w (Checks C Bd Bs Bl kd cells Dd X (stepsR Dd Xd d X n S l) w)
/-- What a condition's check says. -/
def condR (Dd : Table) (Xd : ByteArray → Int) (d : Nat) (X S : ByteArray → Bool) (n : Int) (conds : List CondD) (body : List StepD) : Int × Int × (ByteArray → Bool) :=
  if conds.length = 0 then (8, n, S) else if 6 < conds.length then (2, n, S)
  else if firstE (conds.map fun f => inErr X f.1 f.2) ≠ 0 then (firstE (conds.map fun f => inErr X f.1 f.2), n, S) else stepsR Dd Xd (d + 1) X n S body
set_option maxRecDepth 100000 in
set_option maxHeartbeats 8000000 in
theorem chkCond_any (X S : ByteArray → Bool) (steps : Int) (kind : Int) (name : ByteArray) (low high : List BoundD) (conds : List CondD) (body : List StepD) (arr : ByteArray) (subs : List CondD) (x : ExprD) (hbody : BodyGood C Bd Bs Bl kd cells Dd Xd body) (d : Nat) (vs : List Value) (w : World) (hE : EnvS C Bd Bs Bl kd cells Dd X S steps w) (hn : steps ≤ 200000) (hd : d ≤ 12) (hF : StepF w vs (.mk kind name low high conds body arr subs x)) :
    Calls Tryz.prog 138 #[.pointer (some ⟨C, 0, none⟩), .agg vs.toArray, .int .i64 d] w (Checks C Bd Bs Bl kd cells Dd X (condR Dd Xd d X S steps conds body) w) := by
  unfold StepF at hF
  obtain ⟨vlo, vhi, vcs, p5, k5, vsb, e0, e1, e2, e3, e4, e5, e6, rfl, -, hns, hlo, hhi, hcs, has, hsb, hx, hbl, hbd⟩ := hF
  obtain ⟨p2, k2, rfl, -, -⟩ := hlo
  obtain ⟨p3, k3, rfl, -, -⟩ := hhi
  have HCs := Lib.hid hcs
  obtain ⟨p4, k4, rfl, l4, -⟩ := hcs
  obtain ⟨p7, k7, rfl, -, -⟩ := hsb
  obtain ⟨op, n, c, ts, xa, xs, args⟩ := x
  unfold ExprF at hx
  obtain ⟨⟨rfl, -⟩, ⟨rfl, -⟩, ⟨rfl, -⟩, ⟨p11, k11, rfl, -⟩, ⟨rfl, -⟩, ⟨p13, k13, rfl, -⟩, p14, k14, rfl, -⟩ := hx
  have HE := Lib.hid hE
  have HBd := Lib.hid hbd
  have HBo := Lib.hid hbody
  clear hE hbd hbody
  have HG := Lib.hid (World.grownBy_alloc w (.cells #[.int .i64 kind, .string name, .slice p2 low.length k2, .slice p3 high.length k3, .slice p4 conds.length k4, .slice p5 body.length k5, .string arr, .slice p7 subs.length k7, .int .i64 op, .int .i64 n, .int .i64 c, .slice p11 ts.length k11, .string xa, .slice p13 xs.length k13, .slice p14 args.length k14] 96) none)
  have HB := Lib.hid (heap_alloc_new w (.cells #[.int .i64 kind, .string name, .slice p2 low.length k2, .slice p3 high.length k3, .slice p4 conds.length k4, .slice p5 body.length k5, .string arr, .slice p7 subs.length k7, .int .i64 op, .int .i64 n, .int .i64 c, .slice p11 ts.length k11, .string xa, .slice p13 xs.length k13, .slice p14 args.length k14] 96))
  go_enter Tryz.func138, Tryz.ntmps138
  go_upto_region 1 with fail
  generalize w.alloc (.cells #[.int .i64 kind, .string name, .slice p2 low.length k2, .slice p3 high.length k3, .slice p4 conds.length k4, .slice p5 body.length k5, .string arr, .slice p7 subs.length k7, .int .i64 op, .int .i64 n, .int .i64 c, .slice p11 ts.length k11, .string xa, .slice p13 xs.length k13, .slice p14 args.length k14] 96) = w1 at *
  have HE1 := Lib.hid (HE.out.kept HG.out)
  obtain ⟨⟨x0, x1, x2, x3, x4, x5, x6, x7, x8, x9, x10, x11, x12, x13, x14⟩, xf⟩ := box15_cells HB.out
  by_cases h0 : conds.length = 0
  · have HR : Hid (condR Dd Xd d X S steps conds body = (8, steps, S)) := by show _ = _; unfold condR; rw [if_pos h0]
    have h0i : ((conds.length : Int) == 0) = true := by simp [h0]
    go_wp2
    go_ret
    exact ⟨by rw [HR.out]; rfl, But.of_grown HG.out, by rw [HR.out]; exact HE1.out⟩
  have h0i : ((conds.length : Int) == 0) = false := by simpa using h0
  by_cases h6 : 6 < conds.length
  · have HR : Hid (condR Dd Xd d X S steps conds body = (2, steps, S)) := by show _ = _; unfold condR; rw [if_neg h0, if_pos h6]
    have h6i : (6 : Int) < (conds.length : Int) := by omega
    go_wp2
    go_ret
    exact ⟨by rw [HR.out]; rfl, But.of_grown HG.out, by rw [HR.out]; exact HE1.out⟩
  have h6i : ¬ (6 : Int) < (conds.length : Int) := by omega
  obtain ⟨kl, Dl, hl1, hl2, -⟩ := HE1.out.loops
  have HL1 := Lib.hid hl1
  have HL2 := Lib.hid hl2
  clear hl1 hl2
  have hdI : IntKind.i64.wrap ((d : Int) + 1) = ((d + 1 : Nat) : Int) := by rw [wrap_near (by omega)]; omega
  by_cases hf : firstE (conds.map fun f => inErr X f.1 f.2) = 0
  case neg =>
    have HR : Hid (condR Dd Xd d X S steps conds body = (firstE (conds.map fun f => inErr X f.1 f.2), steps, S)) := by show _ = _; unfold condR; rw [if_neg h0, if_neg h6, if_pos hf]
    have hf0 : (firstE (conds.map fun f => inErr X f.1 f.2) != 0) = true := by simpa using hf
    go_wp2_with (go_at_call 30; go_must (refine (chkForms_any conds _ _ HE1.out.chk HL1.out HL2.out (HCs.out.kept HG.out)).mono ?_; rintro e w2 ⟨rfl, hg⟩; have G2 := Lib.hid hg; clear hg))
    go_ret
    exact ⟨by rw [HR.out]; rfl, (But.of_grown HG.out).trans (But.of_grown G2.out), by rw [HR.out]; exact HE1.out.kept G2.out⟩
  case pos =>
    have HR : Hid (condR Dd Xd d X S steps conds body = stepsR Dd Xd (d + 1) X steps S body) := by show _ = _; unfold condR; rw [if_neg h0, if_neg h6, if_neg (by simp [hf])]
    have hf0 : (firstE (conds.map fun f => inErr X f.1 f.2) != 0) = false := by simp [hf]
    go_wp2_with (first
      | (go_at_call 30; go_must (refine (chkForms_any conds _ _ HE1.out.chk HL1.out HL2.out (HCs.out.kept HG.out)).mono ?_; rintro e w2 ⟨rfl, hg⟩; have G2 := Lib.hid hg; obtain ⟨⟨x0, x1, x2, x3, x4, x5, x6, x7, x8, x9, x10, x11, x12, x13, x14⟩, xf⟩ := box15_cells (heap_keep HB.out hg (by simp)); clear hg))
      | (go_at_call 83; go_must (refine (HBo.out (d + 1) X S steps _ p5 k5 (HE1.out.kept G2.out) hn (by omega) hbl (stepL_safe (Safe.of_grown (grownBy_trans HG.out G2.out)) _ _ _ HBd.out)).mono ?_; rintro e w3 ⟨rfl, hb3, he3⟩; have B3 := Lib.hid hb3; have E3 := Lib.hid he3; clear hb3 he3)))
    go_ret
    exact ⟨by rw [HR.out]; rfl, ((But.of_grown HG.out).trans (But.of_grown G2.out)).trans B3.out, by rw [HR.out]; exact E3.out⟩
end Go.Proofs.YtblpknkgjkbacaaGreatDoor
