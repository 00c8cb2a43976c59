/-
 The checker's loops, for bodies that are checked.
-/
import Derived.BigQuiet
import Derived.Test.YtblpknkgjkbacaaGreatDoorQ24
namespace Go.Proofs.YtblpknkgjkbacaaGreatDoor
set_option linter.unusedVariables false
open Go.RowKit Go.Maps Go.WideMaps
variable {w w' : World} {C Bd Bs Bl kd : Nat} {cells : Int} {Dd : Table} {Xd : ByteArray → Int}
/-- What a loop's check says. -/
def loopR (Dd : Table) (Xd : ByteArray → Int) (d : Nat) (X S : ByteArray → Bool) (n : Int) (name : ByteArray) (low high : List BoundD) (body : List StepD) : Int × Int × (ByteArray → Bool) :=
  if has Dd (strL name) = true ∨ X name = true then (6, n, S)
  else if low.length = 0 ∨ high.length = 0 then (8, n, S)
  else if 6 < low.length ∨ 6 < high.length then (2, n, S)
  else if firstE (low.map (boundE X)) ≠ 0 then (firstE (low.map (boundE X)), n, S)
  else if firstE (high.map (boundE X)) ≠ 0 then (firstE (high.map (boundE X)), n, S)
  else stepsR Dd Xd (d + 1) (insB X name) n S body
theorem NamesAt.put {B : Nat} {S : ByteArray → Bool} {m : Int} {k : Nat} {D : Table} {name : ByteArray} (h1 : SetAtB w B (k + 1) (D.put (strL name) (litB true))) (h2 : SetIs D S) (h3 : (k : Int) ≤ m) : NamesAt w B (insB S name) (m + 1) := ⟨k + 1, _, h1, h2.put name true, by omega⟩
set_option maxRecDepth 100000 in
set_option maxHeartbeats 8000000 in
theorem chkLoop_any (hXd : TabIs Dd Xd) (X S : ByteArray → Bool) (steps : Int) (kind : Int) (name : ByteArray) (low high : List BoundD) (conds : List CondD) (body : List StepD) (arr : ByteArray) (subs : List CondD) (x : ExprD) (hbody : BodyGood C Bd Bs Bl kd cells Dd Xd body) (d : Nat) (vs : List Value) (w : World) (hE : EnvS C Bd Bs Bl kd cells Dd X S steps w) (hLp : NamesAt w Bl X (steps - 1)) (hn : steps ≤ 200000) (hd : d ≤ 12) (hF : StepF w vs (.mk kind name low high conds body arr subs x)) :
    Calls Tryz.prog 137 #[.pointer (some ⟨C, 0, none⟩), .agg vs.toArray, .int .i64 d] w (Checks C Bd Bs Bl kd cells Dd X (loopR Dd Xd d X S steps name low high body) w) := by
  unfold StepF at hF
  obtain ⟨vlo, vhi, vcs, p5, k5, vsb, e0, e1, e2, e3, e4, e5, e6, rfl, -, hns, hlo, hhi, hcs, hars, hsb, hx, hbl, hbd⟩ := hF
  have HLo := Lib.hid hlo
  have HHi := Lib.hid hhi
  obtain ⟨p2, k2, rfl, l2, -⟩ := hlo
  obtain ⟨p3, k3, rfl, l3, -⟩ := hhi
  obtain ⟨p4, k4, rfl, -, -⟩ := hcs
  obtain ⟨p7, k7, rfl, -, -⟩ := hsb
  obtain ⟨op, n, c, ts, xa, xs, args⟩ := x
  unfold ExprF at hx
  obtain ⟨⟨rfl, -⟩, ⟨rfl, -⟩, ⟨rfl, -⟩, ⟨p11, k11, rfl, -⟩, ⟨rfl, -⟩, ⟨p13, k13, rfl, -⟩, p14, k14, rfl, -⟩ := hx
  have HE := Lib.hid hE
  have HBd := Lib.hid hbd
  have HBo := Lib.hid hbody
  have HLp := Lib.hid hLp
  have HXd := Lib.hid hXd
  have hsL : Bl < w.heap.size := by
    obtain ⟨k, D, h1, _⟩ := hLp
    exact World.ownsMap.lt h1
  have hCw : C < w.heap.size := (Array.getElem?_eq_some_iff.1 hE.chk).1
  have hap := hE.apart
  have hne := hE.ne
  clear hE hbd hbody hLp hXd
  have HG := Lib.hid (World.grownBy_alloc w (.cells #[.int .i64 kind, .string name, .slice p2 low.length k2, .slice p3 high.length k3, .slice p4 conds.length k4, .slice p5 body.length k5, .string arr, .slice p7 subs.length k7, .int .i64 op, .int .i64 n, .int .i64 c, .slice p11 ts.length k11, .string xa, .slice p13 xs.length k13, .slice p14 args.length k14] 96) none)
  have HB := Lib.hid (heap_alloc_new w (.cells #[.int .i64 kind, .string name, .slice p2 low.length k2, .slice p3 high.length k3, .slice p4 conds.length k4, .slice p5 body.length k5, .string arr, .slice p7 subs.length k7, .int .i64 op, .int .i64 n, .int .i64 c, .slice p11 ts.length k11, .string xa, .slice p13 xs.length k13, .slice p14 args.length k14] 96))
  go_enter Tryz.func137, Tryz.ntmps137
  go_upto_region 1 with fail
  generalize w.alloc (.cells #[.int .i64 kind, .string name, .slice p2 low.length k2, .slice p3 high.length k3, .slice p4 conds.length k4, .slice p5 body.length k5, .string arr, .slice p7 subs.length k7, .int .i64 op, .int .i64 n, .int .i64 c, .slice p11 ts.length k11, .string xa, .slice p13 xs.length k13, .slice p14 args.length k14] 96) = w0 at *
  have HE0 := Lib.hid (HE.out.kept HG.out)
  obtain ⟨⟨x0, x1, x2, x3, x4, x5, x6, x7, x8, x9, x10, x11, x12, x13, x14⟩, xf⟩ := box15_cells HB.out
  obtain ⟨c0, c1, c2, c3, c4, cf⟩ := HE0.out.chk.cells
  have hlk : (Instr.lookup 73 (.map (some Bd)) (.string name) true).run Tryz.prog w0.drew = .ok (.tuple #[.int .i64 (Xd name), .bool (has Dd (strL name))]) w0.drew := tot_ok (World.ownsMap.kept HE0.out.dims (grown_drew _ none) (by simp)) HXd.out hns
  go_region_held3 (fun W => W.cell? ⟨C, 0, none⟩ = some (.map (some Bd)) ∧ W.cell? ⟨w.heap.size, 1, none⟩ = some (.string name) ∧ (Instr.lookup 73 (.map (some Bd)) (.string name) true).run Tryz.prog W = .ok (.tuple #[.int .i64 (Xd name), .bool (has Dd (strL name))]) W) (first
    | exact ⟨c0, x1, hlk⟩
    | go_keep) (fail)
  have HG1 := Lib.hid (grownBy_trans HG.out (grown_drew w0 none))
  have HB1 : Hid (w0.drew.heap[w.heap.size]? = some (.cells #[.int .i64 kind, .string name, .slice p2 low.length k2, .slice p3 high.length k3, .slice p4 conds.length k4, .slice p5 body.length k5, .string arr, .slice p7 subs.length k7, .int .i64 op, .int .i64 n, .int .i64 c, .slice p11 ts.length k11, .string xa, .slice p13 xs.length k13, .slice p14 args.length k14] 96 (0, 0))) := HB.out
  clear x0 x1 x2 x3 x4 x5 x6 x7 x8 x9 x10 x11 x12 x13 x14 xf c0 c1 c2 c3 c4 cf hlk HB HG HE0
  generalize w0.drew = w1 at *
  have HE1 := Lib.hid (HE.out.kept HG1.out)
  obtain ⟨⟨x0, x1, x2, x3, x4, x5, x6, x7, x8, x9, x10, x11, x12, x13, x14⟩, xf⟩ := box15_cells HB1.out
  obtain ⟨c0, c1, c2, c3, c4, cf⟩ := HE1.out.chk.cells
  cases hh : has Dd (strL name) with
  | true =>
    have HR : Hid (loopR Dd Xd d X S steps name low high body = (6, steps, S)) := by show _ = _; unfold loopR; rw [if_pos (Or.inl hh)]
    go_upto_region 2 with fail
    go_quiet (fail)
    go_wp2
    go_ret
    exact ⟨by rw [HR.out]; rfl, (But.of_grown HG1.out).trans (But.of_grown (grownBy_drewN w1 _ none)), by rw [HR.out]; exact HE1.out.kept (grownBy_drewN w1 _ none)⟩
  | false =>
  have hld : (Instr.lookup 137 (.map (some Bl)) (.string name) false).run Tryz.prog w1.drew = .ok (.bool (X name)) w1.drew := namesIs (HE1.out.loops.kept (grown_drew w1 none) (by simp)) hns
  go_upto_region 2 with fail
  go_region_held3 (fun W => W.cell? ⟨C, 3, none⟩ = some (.map (some Bl)) ∧ W.cell? ⟨w.heap.size, 1, none⟩ = some (.string name) ∧ (Instr.lookup 137 (.map (some Bl)) (.string name) false).run Tryz.prog W = .ok (.bool (X name)) W) (first
    | exact ⟨c3, x1, hld⟩
    | go_keep) (fail)
  have HG2 := Lib.hid (grownBy_trans HG1.out (grown_drew w1 none))
  have HB2 : Hid (w1.drew.heap[w.heap.size]? = some (.cells #[.int .i64 kind, .string name, .slice p2 low.length k2, .slice p3 high.length k3, .slice p4 conds.length k4, .slice p5 body.length k5, .string arr, .slice p7 subs.length k7, .int .i64 op, .int .i64 n, .int .i64 c, .slice p11 ts.length k11, .string xa, .slice p13 xs.length k13, .slice p14 args.length k14] 96 (0, 0))) := HB1.out
  clear x0 x1 x2 x3 x4 x5 x6 x7 x8 x9 x10 x11 x12 x13 x14 xf c0 c1 c2 c3 c4 cf hld HB1 HG1 HE1
  generalize w1.drew = w2 at *
  have HE2 := Lib.hid (HE.out.kept HG2.out)
  obtain ⟨⟨x0, x1, x2, x3, x4, x5, x6, x7, x8, x9, x10, x11, x12, x13, x14⟩, xf⟩ := box15_cells HB2.out
  cases hx : X name with
  | true =>
    have HR : Hid (loopR Dd Xd d X S steps name low high body = (6, steps, S)) := by show _ = _; unfold loopR; rw [if_pos (Or.inr hx)]
    go_wp2
    go_ret
    exact ⟨by rw [HR.out]; rfl, But.of_grown HG2.out, by rw [HR.out]; exact HE2.out⟩
  | false =>
  have HR1 : Hid (loopR Dd Xd d X S steps name low high body = if low.length = 0 ∨ high.length = 0 then (8, steps, S) else if 6 < low.length ∨ 6 < high.length then (2, steps, S) else if firstE (low.map (boundE X)) ≠ 0 then (firstE (low.map (boundE X)), steps, S) else if firstE (high.map (boundE X)) ≠ 0 then (firstE (high.map (boundE X)), steps, S) else stepsR Dd Xd (d + 1) (insB X name) steps S body) := by show _ = _; unfold loopR; rw [if_neg (by simp [hh, hx])]
  by_cases h0 : low.length = 0 ∨ high.length = 0
  · have HR := Lib.hid (HR1.out.trans (if_pos h0))
    by_cases h0a : low.length = 0
    · have h0i : ((low.length : Int) == 0) = true := by simp [h0a]
      go_wp2
      go_ret
      exact ⟨by rw [HR.out]; rfl, But.of_grown HG2.out, by rw [HR.out]; exact HE2.out⟩
    · have h0i : ((low.length : Int) == 0) = false := by simpa using h0a
      have h0j : ((high.length : Int) == 0) = true := (by have h : high.length = 0 := (by omega); simpa using h)
      go_wp2
      go_ret
      exact ⟨by rw [HR.out]; rfl, But.of_grown HG2.out, by rw [HR.out]; exact HE2.out⟩
  have h0i : ((low.length : Int) == 0) = false := (by have h : ¬ low.length = 0 := (by omega); simpa using h)
  have h0j : ((high.length : Int) == 0) = false := (by have h : ¬ high.length = 0 := (by omega); simpa using h)
  have HR2 := Lib.hid (HR1.out.trans (if_neg h0))
  by_cases h6 : 6 < low.length ∨ 6 < high.length
  · have HR := Lib.hid (HR2.out.trans (if_pos h6))
    by_cases h6a : 6 < low.length
    · have h6i : (6 : Int) < (low.length : Int) := by omega
      go_wp2
      go_ret
      exact ⟨by rw [HR.out]; rfl, But.of_grown HG2.out, by rw [HR.out]; exact HE2.out⟩
    · have h6i : ¬ (6 : Int) < (low.length : Int) := by omega
      have h6j : (6 : Int) < (high.length : Int) := by omega
      go_wp2
      go_ret
      exact ⟨by rw [HR.out]; rfl, But.of_grown HG2.out, by rw [HR.out]; exact HE2.out⟩
  have h6i : ¬ (6 : Int) < (low.length : Int) := by omega
  have h6j : ¬ (6 : Int) < (high.length : Int) := by omega
  have HR3 := Lib.hid (HR2.out.trans (if_neg h6))
  obtain ⟨kl, Dl, hl1, hl2, -⟩ := HE2.out.loops
  have HL1 := Lib.hid hl1
  have HL2 := Lib.hid hl2
  clear hl1 hl2
  by_cases hf : firstE (low.map (boundE X)) = 0
  case neg =>
    have HR := Lib.hid (HR3.out.trans (if_pos hf))
    have hf0 : (firstE (low.map (boundE X)) != 0) = true := by simpa using hf
    go_wp2_with (go_at_call 155; go_must (refine (chkBounds_any low _ _ HE2.out.chk HL1.out HL2.out (HLo.out.safe (Safe.of_grown HG2.out))).mono ?_; rintro e w3 ⟨rfl, hg⟩; have G3 := Lib.hid hg; clear hg))
    go_ret
    exact ⟨by rw [HR.out]; rfl, (But.of_grown HG2.out).trans (But.of_grown G3.out), by rw [HR.out]; exact HE2.out.kept G3.out⟩
  have hf0 : (firstE (low.map (boundE X)) != 0) = false := by simp [hf]
  have HR4 := Lib.hid (HR3.out.trans (if_neg (by simp [hf])))
  go_upto_region 11 with (go_at_call 155; go_must (refine (chkBounds_any low _ _ HE2.out.chk HL1.out HL2.out (HLo.out.safe (Safe.of_grown HG2.out))).mono ?_; rintro e w3 ⟨rfl, hg⟩; have HG3 := Lib.hid (grownBy_trans HG2.out hg); have HB3 := Lib.hid (heap_keep HB2.out hg (by simp)); have HL3 : Hid (SetAtB w3 Bl kl Dl) := World.ownsMap.kept HL1.out hg (by simp); clear hg))
  clear x0 x1 x2 x3 x4 x5 x6 x7 x8 x9 x10 x11 x12 x13 x14 xf
  have HE3 := Lib.hid (HE.out.kept HG3.out)
  obtain ⟨⟨x0, x1, x2, x3, x4, x5, x6, x7, x8, x9, x10, x11, x12, x13, x14⟩, xf⟩ := box15_cells HB3.out
  by_cases hg : firstE (high.map (boundE X)) = 0
  case neg =>
    have HR := Lib.hid (HR4.out.trans (if_pos hg))
    have hg0 : (firstE (high.map (boundE X)) != 0) = true := by simpa using hg
    go_wp2_with (go_at_call 155; go_must (refine (chkBounds_any high _ _ HE3.out.chk HL3.out HL2.out (HHi.out.safe (Safe.of_grown HG3.out))).mono ?_; rintro e w4 ⟨rfl, hg⟩; have G4 := Lib.hid hg; clear hg))
    go_ret
    exact ⟨by rw [HR.out]; rfl, (But.of_grown HG3.out).trans (But.of_grown G4.out), by rw [HR.out]; exact HE3.out.kept G4.out⟩
  have hg0 : (firstE (high.map (boundE X)) != 0) = false := by simp [hg]
  have HR := Lib.hid (HR4.out.trans (if_neg (by simp [hg])))
  clear HR1 HR2 HR3 HR4
  go_upto_region 14 with (go_at_call 155; go_must (refine (chkBounds_any high _ _ HE3.out.chk HL3.out HL2.out (HHi.out.safe (Safe.of_grown HG3.out))).mono ?_; rintro e w4 ⟨rfl, hg⟩; have HG4 := Lib.hid (grownBy_trans HG3.out hg); have HB4 := Lib.hid (heap_keep HB3.out hg (by simp)); clear hg))
  clear x0 x1 x2 x3 x4 x5 x6 x7 x8 x9 x10 x11 x12 x13 x14 xf
  have HE4 := Lib.hid (HE.out.kept HG4.out)
  obtain ⟨⟨x0, x1, x2, x3, x4, x5, x6, x7, x8, x9, x10, x11, x12, x13, x14⟩, xf⟩ := box15_cells HB4.out
  obtain ⟨c0, c1, c2, c3, c4, cf⟩ := HE4.out.chk.cells
  go_still_tail 6, (by kernel_rfl)
  change wpList _ _ _ _ _ w4.drew
  have HG5 := Lib.hid (grownBy_trans HG4.out (grown_drew w4 none))
  have HB5 : Hid (w4.drew.heap[w.heap.size]? = some (.cells #[.int .i64 kind, .string name, .slice p2 low.length k2, .slice p3 high.length k3, .slice p4 conds.length k4, .slice p5 body.length k5, .string arr, .slice p7 subs.length k7, .int .i64 op, .int .i64 n, .int .i64 c, .slice p11 ts.length k11, .string xa, .slice p13 xs.length k13, .slice p14 args.length k14] 96 (0, 0))) := HB4.out
  clear x0 x1 x2 x3 x4 x5 x6 x7 x8 x9 x10 x11 x12 x13 x14 xf c0 c1 c2 c3 c4 cf HB2 HB3 HB4 HG2 HG3 HG4 HE2 HE3 HE4 HL1 HL2 HL3
  generalize w4.drew = w5 at *
  have HE5 := Lib.hid (HE.out.kept HG5.out)
  obtain ⟨km, Dm, hown0, hset0, hkm⟩ := HLp.out.kept HG5.out (by simp)
  have HOw : Hid (SetAtB w5 Bl km Dm) := hown0
  have HSe := Lib.hid hset0
  clear hown0 hset0
  obtain ⟨⟨x0, x1, x2, x3, x4, x5, x6, x7, x8, x9, x10, x11, x12, x13, x14⟩, xf⟩ := box15_cells HB5.out
  obtain ⟨c0, c1, c2, c3, c4, cf⟩ := HE5.out.chk.cells
  go_upto_region 15 with (at_mapUpdate; refine wpList_mapUpdate_own _ rfl _ _ _ 137 rfl 9 4 Tryz.lawStr Tryz.underlying137 _ Bl km Dm rfl HOw.out (by unfold maxLen; omega) _ _ _ rfl rfl (key_str hns) _ [] (plainElem_bool Tryz.underlying4 true) ?_; intro w6 hown hg6; have HO6 : Hid (SetAtB w6 Bl (km + 1) (Dm.put (strL name) (litB true))) := hown; have HG6 := Lib.hid hg6; clear hown hg6)
  have HBu := Lib.hid ((But.of_grown (C := C) (Bs := Bs) (Bl := Bl) HG5.out).trans (But.of_one HG6.out (by omega)))
  have HE6 : Hid (EnvS C Bd Bs Bl kd cells Dd (insB X name) S steps w6) := ⟨heap_keep HE5.out.chk HG6.out (by simp; omega), World.ownsMap.kept HE5.out.dims HG6.out (by simp; omega), HE5.out.sts.kept HG6.out (by simp; omega), (NamesAt.put HO6.out HSe.out hkm).more (by omega), HE5.out.ne⟩
  have HB6 := Lib.hid (heap_keep HB5.out HG6.out (by simp; omega))
  have HBd6 := Lib.hid (stepL_safe (HE.out.safe HBu.out) _ _ _ HBd.out)
  clear x0 x1 x2 x3 x4 x5 x6 x7 x8 x9 x10 x11 x12 x13 x14 xf c0 c1 c2 c3 c4 cf HB5 HG5 HE5 HOw HSe HO6 HG6
  obtain ⟨⟨x0, x1, x2, x3, x4, x5, x6, x7, x8, x9, x10, x11, x12, x13, x14⟩, xf⟩ := box15_cells HB6.out
  have hdI : IntKind.i64.wrap ((d : Int) + 1) = ((d + 1 : Nat) : Int) := by rw [wrap_near (by omega)]; omega
  go_upto_region 16 with (go_at_call 83; go_must (refine (HBo.out (d + 1) _ S steps _ p5 k5 HE6.out hn (by omega) hbl HBd6.out).mono ?_; rintro e w7 ⟨rfl, hb7, he7⟩; have B7 := Lib.hid hb7; have HE7 := Lib.hid he7; clear hb7 he7))
  have HB7 := Lib.hid (B7.out.keep HB6.out (by omega) (by have := HE.out.sts; obtain ⟨_, _, h1, _⟩ := this; have := World.ownsMap.lt h1; omega) (by omega))
  clear x0 x1 x2 x3 x4 x5 x6 x7 x8 x9 x10 x11 x12 x13 x14 xf
  obtain ⟨⟨x0, x1, x2, x3, x4, x5, x6, x7, x8, x9, x10, x11, x12, x13, x14⟩, xf⟩ := box15_cells HB7.out
  obtain ⟨c0, c1, c2, c3, c4, cf⟩ := HE7.out.chk.cells
  go_still_tail 6, (by kernel_rfl)
  change wpList _ _ _ _ _ w7.drew
  have HE8 := Lib.hid (HE7.out.kept (grown_drew w7 none))
  have B8 := Lib.hid (B7.out.trans (But.of_grown (grown_drew w7 none)))
  have HB8 : Hid (w7.drew.heap[w.heap.size]? = some (.cells #[.int .i64 kind, .string name, .slice p2 low.length k2, .slice p3 high.length k3, .slice p4 conds.length k4, .slice p5 body.length k5, .string arr, .slice p7 subs.length k7, .int .i64 op, .int .i64 n, .int .i64 c, .slice p11 ts.length k11, .string xa, .slice p13 xs.length k13, .slice p14 args.length k14] 96 (0, 0))) := HB7.out
  clear x0 x1 x2 x3 x4 x5 x6 x7 x8 x9 x10 x11 x12 x13 x14 xf c0 c1 c2 c3 c4 cf HB7 HE7 B7
  generalize w7.drew = w8 at *
  obtain ⟨⟨x0, x1, x2, x3, x4, x5, x6, x7, x8, x9, x10, x11, x12, x13, x14⟩, xf⟩ := box15_cells HB8.out
  obtain ⟨c0, c1, c2, c3, c4, cf⟩ := HE8.out.chk.cells
  obtain ⟨kq, Dq, hown0, hset0, hkq⟩ := HE8.out.loops
  have HOw : Hid (SetAtB w8 Bl kq Dq) := hown0
  have HSe : Hid (SetIs (Dq.del (strL name)) X) := (hset0.del name).cong fun m => by
    show (if m = name then false else insB X name m) = X m
    unfold insB
    by_cases e : m = name
    · rw [if_pos e, e, hx]
    · rw [if_neg e, if_neg e]
  clear hown0 hset0
  go_wp2_with (at_delete; refine wpList_delete_own _ rfl _ _ 137 9 rfl 4 Tryz.lawStr Tryz.underlying137 _ Bl kq Dq rfl HOw.out _ _ rfl (key_str hns) ?_; intro w9 hown hturn; have HO9 : Hid (SetAtB w9 Bl kq (Dq.del (strL name))) := hown; have HG9 := Lib.hid hturn.grown; clear hown hturn)
  go_ret
  exact ⟨by rw [HR.out]; rfl, (HBu.out.trans B8.out).trans (But.of_one HG9.out (by omega)), by
    rw [HR.out]
    exact ⟨heap_keep HE8.out.chk HG9.out (by simp; omega), World.ownsMap.kept HE8.out.dims HG9.out (by simp; omega), HE8.out.sts.kept HG9.out (by simp; omega), ⟨kq, _, HO9.out, HSe.out, hkq⟩, HE8.out.ne⟩⟩
end Go.Proofs.YtblpknkgjkbacaaGreatDoor
