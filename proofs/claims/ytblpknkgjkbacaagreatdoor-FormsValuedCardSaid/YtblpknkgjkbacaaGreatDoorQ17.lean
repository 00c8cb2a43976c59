/-
 Steps, as they lie in memory; what stays while a program is checked; what is wrong with steps. What is wrong with a point: nest.checkPoint and wbref1.PointFault say the same of every point.
-/
import Derived.BigQuiet
import Derived.Test.YtblpknkgjkbacaaGreatDoorQ04
import Derived.Test.YtblpknkgjkbacaaGreatDoorQ16
namespace Go.Proofs.YtblpknkgjkbacaaGreatDoor
set_option linter.unusedVariables false
open Go.RowKit Go.Maps Go.WideMaps
variable {w w' w2 : World}
/-- Blocks that hold a string or a slice are as they were. -/
def Safe (w w' : World) : Prop := ∀ (b k : Nat) (v : Value), w.cell? ⟨b, k, none⟩ = some v → ((∃ s, v = .string s) ∨ ∃ p n c, v = .slice p n c) → ∀ (j : Nat) (u : Value), w.cell? ⟨b, j, none⟩ = some u → w'.cell? ⟨b, j, none⟩ = some u
theorem Safe.of_grown (h : w.grownBy w' none) : Safe w w' := fun _ _ _ _ _ _ _ hu => h.cell hu (by simp)
theorem Safe.str {b k j : Nat} {s : ByteArray} {u : Value} (h : Safe w w') (hs : w.cell? ⟨b, k, none⟩ = some (.string s)) (hu : w.cell? ⟨b, j, none⟩ = some u) : w'.cell? ⟨b, j, none⟩ = some u := h b k _ hs (Or.inl ⟨_, rfl⟩) j u hu
theorem Safe.sl {b k j n c : Nat} {p : Option Addr} {u : Value} (h : Safe w w') (hs : w.cell? ⟨b, k, none⟩ = some (.slice p n c)) (hu : w.cell? ⟨b, j, none⟩ = some u) : w'.cell? ⟨b, j, none⟩ = some u := h b k _ hs (Or.inr ⟨_, _, _, rfl⟩) j u hu
theorem TermsAt.safe {v : Value} {ts : List TermD} (h : TermsAt w v ts) (hs : Safe w w') : TermsAt w' v ts := by
  obtain ⟨p, cap, hv, hl, hc⟩ := h
  refine ⟨p, cap, hv, hl, fun j t hj => ?_⟩
  obtain ⟨b, off, hp, h1, h2, h3, h4, h5⟩ := hc j t hj
  exact ⟨b, off, hp, h1, h2, h3, hs.str h4 h4, hs.str h4 h5⟩
theorem CondsAt.safe {v : Value} {l : List CondD} (h : CondsAt w v l) (hs : Safe w w') : CondsAt w' v l := by
  obtain ⟨p, cap, hv, hl, hc⟩ := h
  refine ⟨p, cap, hv, hl, fun j f hj => ?_⟩
  obtain ⟨b, off, tv, hp, h1, h2, h3, h4⟩ := hc j f hj
  obtain ⟨pt, tc, rfl, -⟩ := id h3
  exact ⟨b, off, _, hp, hs.sl h2 h1, hs.sl h2 h2, h3.safe hs, h4⟩
mutual
theorem exprF_safe (hs : Safe w w') : ∀ (x : ExprD) (v0 v1 v2 v3 v4 v5 v6 : Value), ExprF w v0 v1 v2 v3 v4 v5 v6 x → ExprF w' v0 v1 v2 v3 v4 v5 v6 x
  | .mk op n c ts arr subs args, v0, v1, v2, v3, v4, v5, v6, h => by
    unfold ExprF at h ⊢
    obtain ⟨h0, h1, h2, h3, h4, h5, p, cap, h6, h7, h8⟩ := h
    exact ⟨h0, h1, h2, h3.safe hs, h4, h5.safe hs, p, cap, h6, h7, exprL_safe hs args p 0 h8⟩
theorem exprL_safe (hs : Safe w w') : ∀ (l : List ExprD) (p : Option Addr) (j : Nat), ExprL w p j l → ExprL w' p j l
  | [], _, _, _ => by unfold ExprL; trivial
  | .mk op n c ts arr subs args :: r, p, j, h => by
    unfold ExprL at h ⊢
    obtain ⟨⟨b, off, v0, v1, v2, v3, v4, v5, v6, hp, ⟨h0, h1, h2, h3, h4, h5, h6⟩, hF⟩, hr⟩ := h
    have hF2 := hF
    unfold ExprF at hF2
    obtain ⟨_, _, _, _, ⟨rfl, _⟩, _⟩ := hF2
    exact ⟨⟨b, off, v0, v1, v2, v3, _, v5, v6, hp, ⟨hs.str h4 h0, hs.str h4 h1, hs.str h4 h2, hs.str h4 h3, hs.str h4 h4, hs.str h4 h5, hs.str h4 h6⟩, exprF_safe hs (.mk op n c ts arr subs args) _ _ _ _ _ _ _ hF⟩, exprL_safe hs r p (j + 1) hr⟩
end
/-- A bound: the constant and the terms of its form, its divisor. -/
abbrev BoundD := Int × List TermD × Int
/-- Bounds in memory. -/
def BoundsAt (w : World) (v : Value) (l : List BoundD) : Prop :=
  ∃ p cap, v = .slice p l.length cap ∧ l.length ≤ 1000000 ∧ ∀ j f, l[j]? = some f → ∃ b off tv, p = some ⟨b, off, none⟩ ∧ w.cell? ⟨b, off + j * 3, none⟩ = some (.int .i64 f.1) ∧ w.cell? ⟨b, off + j * 3 + 1, none⟩ = some tv ∧ w.cell? ⟨b, off + j * 3 + 2, none⟩ = some (.int .i64 f.2.2) ∧ TermsAt w tv f.2.1 ∧ (-9223372036854775808 ≤ f.1 ∧ f.1 ≤ 9223372036854775807) ∧ (-9223372036854775808 ≤ f.2.2 ∧ f.2.2 ≤ 9223372036854775807)
theorem BoundsAt.safe {v : Value} {l : List BoundD} (h : BoundsAt w v l) (hs : Safe w w') : BoundsAt w' v l := by
  obtain ⟨p, cap, hv, hl, hc⟩ := h
  refine ⟨p, cap, hv, hl, fun j f hj => ?_⟩
  obtain ⟨b, off, tv, hp, h1, h2, h3, h4, h5⟩ := hc j f hj
  obtain ⟨pt, tc, rfl, -⟩ := id h4
  exact ⟨b, off, _, hp, hs.sl h2 h1, hs.sl h2 h2, hs.sl h2 h3, h4.safe hs, h5⟩
/-- A step: its kind, its name, its bounds below and above, its conditions, its body, its array, its indices, its expression. -/
inductive StepD where
  | mk (kind : Int) (name : ByteArray) (low high : List BoundD) (conds : List CondD) (body : List StepD) (arr : ByteArray) (subs : List CondD) (x : ExprD) : StepD
/-- Cells in a row. -/
def CellsAt (w : World) (b off : Nat) (vs : List Value) : Prop := ∀ i v, vs[i]? = some v → w.cell? ⟨b, off + i, none⟩ = some v
theorem CellsAt.safe {b off : Nat} {vs : List Value} {i : Nat} {s : ByteArray} (h : CellsAt w b off vs) (hi : vs[i]? = some (.string s)) (hs : Safe w w') : CellsAt w' b off vs := fun j v hj => hs.str (h i _ hi) (h j v hj)
mutual
/-- The fields of a step. -/
def StepF (w : World) (vs : List Value) : StepD → Prop
  | .mk kind name low high conds body arr subs x => ∃ vlo vhi vcs p cap vsb e0 e1 e2 e3 e4 e5 e6, vs = [.int .i64 kind, .string name, vlo, vhi, vcs, .slice p body.length cap, .string arr, vsb, e0, e1, e2, e3, e4, e5, e6] ∧
    (-9223372036854775808 ≤ kind ∧ kind ≤ 9223372036854775807) ∧ name.size ≤ maxLen ∧ BoundsAt w vlo low ∧ BoundsAt w vhi high ∧ CondsAt w vcs conds ∧ arr.size ≤ maxLen ∧ CondsAt w vsb subs ∧ ExprF w e0 e1 e2 e3 e4 e5 e6 x ∧ body.length ≤ 1000000 ∧ StepL w p 0 body
/-- Steps in a row, from a place on. -/
def StepL (w : World) (p : Option Addr) : Nat → List StepD → Prop
  | _, [] => True
  | j, s :: r => (∃ b off vs, p = some ⟨b, off, none⟩ ∧ CellsAt w b (off + j * 15) vs ∧ StepF w vs s) ∧ StepL w p (j + 1) r
end
mutual
theorem stepF_safe (hs : Safe w w') : ∀ (s : StepD) (vs : List Value), StepF w vs s → StepF w' vs s
  | .mk kind name low high conds body arr subs x, vs, h => by
    unfold StepF at h ⊢
    obtain ⟨vlo, vhi, vcs, p, cap, vsb, e0, e1, e2, e3, e4, e5, e6, hv, h1, h2, h3, h4, h5, h6, h7, h8, h9, h10⟩ := h
    exact ⟨vlo, vhi, vcs, p, cap, vsb, e0, e1, e2, e3, e4, e5, e6, hv, h1, h2, h3.safe hs, h4.safe hs, h5.safe hs, h6, h7.safe hs, exprF_safe hs _ _ _ _ _ _ _ _ h8, h9, stepL_safe hs body p 0 h10⟩
theorem stepL_safe (hs : Safe w w') : ∀ (l : List StepD) (p : Option Addr) (j : Nat), StepL w p j l → StepL w' p j l
  | [], _, _, _ => by unfold StepL; trivial
  | .mk kind name low high conds body arr subs x :: r, p, j, h => by
    unfold StepL at h ⊢
    obtain ⟨⟨b, off, vs, hp, hc, hF⟩, hr⟩ := h
    have hF2 := hF
    unfold StepF at hF2
    obtain ⟨vlo, vhi, vcs, p2, cap, vsb, e0, e1, e2, e3, e4, e5, e6, rfl, _⟩ := hF2
    exact ⟨⟨b, off, _, hp, hc.safe (i := 1) rfl hs, stepF_safe hs (.mk kind name low high conds body arr subs x) _ hF⟩, stepL_safe hs r p (j + 1) hr⟩
end
theorem stepL_at {p : Option Addr} : ∀ {l : List StepD} {i k : Nat} {s : StepD}, StepL w p i l → l[k]? = some s → ∃ b off vs, p = some ⟨b, off, none⟩ ∧ CellsAt w b (off + (i + k) * 15) vs ∧ StepF w vs s
  | [], i, k, s, _, h => by simp at h
  | y :: r, i, 0, s, h, hk => by
    obtain rfl : y = s := by simpa using hk
    unfold StepL at h
    simpa using h.1
  | y :: r, i, k + 1, s, h, hk => by
    unfold StepL at h
    have := stepL_at h.2 (by simpa using hk : r[k]? = some s)
    rwa [show i + 1 + k = i + (k + 1) by omega] at this
/-- Three blocks may have changed. -/
structure But (C Bs Bl : Nat) (w w' : World) : Prop where
  os : w'.os = w.os
  tape : w'.tape = w.tape
  output : w'.output = w.output
  size : w.heap.size ≤ w'.heap.size
  block : ∀ k, k < w.heap.size → k ≠ C → k ≠ Bs → k ≠ Bl → w'.heap[k]? = w.heap[k]?
variable {C Bd Bs Bl kd : Nat} {cells steps : Int} {Dd : Table} {Xd : ByteArray → Int} {X S : ByteArray → Bool}
theorem But.refl (w : World) : But C Bs Bl w w := ⟨rfl, rfl, rfl, Nat.le_refl _, fun _ _ _ _ _ => rfl⟩
theorem But.trans {a b c : World} (h : But C Bs Bl a b) (k : But C Bs Bl b c) : But C Bs Bl a c :=
  ⟨k.os.trans h.os, k.tape.trans h.tape, k.output.trans h.output, Nat.le_trans h.size k.size, fun i hi h1 h2 h3 => (k.block i (Nat.lt_of_lt_of_le hi h.size) h1 h2 h3).trans (h.block i hi h1 h2 h3)⟩
theorem But.of_grown (h : w.grownBy w' none) : But C Bs Bl w w' := ⟨h.os, h.tape, h.output, h.size, fun k hk _ _ _ => h.block k hk (by simp)⟩
theorem But.of_one {r : Nat} (h : w.grownBy w' (some r)) (hr : r = C ∨ r = Bs ∨ r = Bl ∨ w.heap.size ≤ r) : But C Bs Bl w w' :=
  ⟨h.os, h.tape, h.output, h.size, fun k hk h1 h2 h3 => h.block k hk (fun e => by have := Option.some.inj e; omega)⟩
theorem But.keep {k : Nat} {o : Obj} (h : But C Bs Bl w w') (ho : w.heap[k]? = some o) (h1 : k ≠ C) (h2 : k ≠ Bs) (h3 : k ≠ Bl) : w'.heap[k]? = some o := (h.block k (Array.getElem?_eq_some_iff.1 ho).1 h1 h2 h3).trans ho
/-- Names in a table, not more than a number. -/
def NamesAt (w : World) (B : Nat) (S : ByteArray → Bool) (m : Int) : Prop := ∃ k D, SetAtB w B k D ∧ SetIs D S ∧ (k : Int) ≤ m
theorem NamesAt.kept {B : Nat} {m : Int} {r : Option Nat} (h : NamesAt w B S m) (hg : w.grownBy w' r) (hr : some B ≠ r) : NamesAt w' B S m := by
  obtain ⟨k, D, h1, h2, h3⟩ := h
  exact ⟨k, D, World.ownsMap.kept h1 hg hr, h2, h3⟩
theorem NamesAt.more {B : Nat} {m m' : Int} (h : NamesAt w B S m) (hm : m ≤ m') : NamesAt w B S m' := by
  obtain ⟨k, D, h1, h2, h3⟩ := h
  exact ⟨k, D, h1, h2, by omega⟩
theorem NamesAt.obj {B : Nat} {m : Int} (h : NamesAt w B S m) : ∃ es cl, w.heap[B]? = some (.map es cl) := by
  obtain ⟨k, D, ⟨es, cl, hb, _⟩, _⟩ := h
  exact ⟨es, cl, hb⟩
theorem NamesAt.nocell {B j : Nat} {m : Int} {v : Value} (h : NamesAt w B S m) (hv : w.cell? ⟨B, j, none⟩ = some v) : False := by
  obtain ⟨es, cl, hb⟩ := h.obj
  unfold World.cell? at hv
  rw [hb] at hv
  cases hv
/-- The checker and its tables: arrays, statements so far, loops around. -/
structure EnvS (C Bd Bs Bl kd : Nat) (cells : Int) (Dd : Table) (X S : ByteArray → Bool) (steps : Int) (w : World) : Prop where
  chk : ChkAt w C Bd Bs Bl cells steps
  dims : MapAt w Bd kd Dd
  sts : NamesAt w Bs S steps
  loops : NamesAt w Bl X steps
  ne : Bd ≠ Bs ∧ Bd ≠ Bl ∧ Bs ≠ Bl
theorem EnvS.kept (h : EnvS C Bd Bs Bl kd cells Dd X S steps w) (hg : w.grownBy w' none) : EnvS C Bd Bs Bl kd cells Dd X S steps w' := ⟨heap_keep h.chk hg (by simp), World.ownsMap.kept h.dims hg (by simp), h.sts.kept hg (by simp), h.loops.kept hg (by simp), h.ne⟩
theorem MapAt.obj {B n : Nat} {D : Table} (h : MapAt w B n D) : ∃ es cl, w.heap[B]? = some (.map es cl) := by
  obtain ⟨es, cl, hb, _⟩ := h
  exact ⟨es, cl, hb⟩
theorem EnvS.apart (h : EnvS C Bd Bs Bl kd cells Dd X S steps w) : C ≠ Bd ∧ C ≠ Bs ∧ C ≠ Bl := by
  have hc := h.chk
  unfold ChkAt at hc
  obtain ⟨a, b, h1⟩ := MapAt.obj h.dims
  obtain ⟨c, d, h2⟩ := h.sts.obj
  obtain ⟨e, f, h3⟩ := h.loops.obj
  refine ⟨fun e => ?_, fun e => ?_, fun e => ?_⟩ <;> subst e
  · rw [h1] at hc; cases hc
  · rw [h2] at hc; cases hc
  · rw [h3] at hc; cases hc
theorem EnvS.safe (h : EnvS C Bd Bs Bl kd cells Dd X S steps w) (hb : But C Bs Bl w w') : Safe w w' := by
  intro b k v hv hs j u hu
  have hl : b < w.heap.size := by
    unfold World.cell? at hv
    cases hc : w.heap[b]? with
    | none => rw [hc] at hv; cases hv
    | some o => exact (Array.getElem?_eq_some_iff.1 hc).1
  have h1 : b ≠ C := fun e => by
    subst e
    have hc := h.chk
    unfold ChkAt at hc
    unfold World.cell? at hv
    rw [hc] at hv
    match k with
    | 0 => simp at hv; subst hv; rcases hs with ⟨s, e⟩ | ⟨p, n, c, e⟩ <;> cases e
    | 1 => simp at hv; subst hv; rcases hs with ⟨s, e⟩ | ⟨p, n, c, e⟩ <;> cases e
    | 2 => simp at hv; subst hv; rcases hs with ⟨s, e⟩ | ⟨p, n, c, e⟩ <;> cases e
    | 3 => simp at hv; subst hv; rcases hs with ⟨s, e⟩ | ⟨p, n, c, e⟩ <;> cases e
    | 4 => simp at hv; subst hv; rcases hs with ⟨s, e⟩ | ⟨p, n, c, e⟩ <;> cases e
    | k + 5 => simp at hv
  have h2 : b ≠ Bs := fun e => by subst e; exact h.sts.nocell hv
  have h3 : b ≠ Bl := fun e => by subst e; exact h.loops.nocell hv
  rw [World.cell?_of_block (hb.block b hl h1 h2 h3)]
  exact hu
/-- A name more. -/
def insB (X : ByteArray → Bool) (n : ByteArray) : ByteArray → Bool := fun m => if m = n then true else X m
/-- What is wrong with a bound. -/
def boundE (X : ByteArray → Bool) (f : BoundD) : Int := if inErr X f.1 f.2.1 ≠ 0 then inErr X f.1 f.2.1 else if f.2.2 < 1 ∨ 1000 < f.2.2 then 1 else 0
/-- A step has more than its kind uses. -/
def stepMore (kind : Int) (name : ByteArray) (nl nh nc nb : Nat) (arr : ByteArray) (ns : Nat) : ExprD → Bool
  | .mk op n c ts xa xs args => (kind != 1 && kind != 3 && name.toList != []) || (kind != 3 && arr.toList != []) || decide (0 < (if kind = 1 then 0 else nl + nh) + (if kind = 2 then 0 else nc) + (if kind = 1 ∨ kind = 2 then 0 else nb) + (if kind = 3 then 0 else ns)) ||
    (kind != 3 && (op != 0 || decide (0 < args.length) || moreE op n c ts.length xa xs.length))
mutual
/-- What is wrong with a step at a depth: the error, how many steps there are then, which statements. -/
def stepR (Dd : Table) (Xd : ByteArray → Int) (d : Nat) (X : ByteArray → Bool) (n : Int) (S : ByteArray → Bool) : StepD → Int × Int × (ByteArray → Bool)
  | .mk kind name low high conds body arr subs x =>
    if 12 < d ∨ 200000 < n + 1 then (2, n + 1, S)
    else if kind < 1 ∨ 3 < kind then (4, n + 1, S)
    else if stepMore kind name low.length high.length conds.length body.length arr subs.length x = true then (3, n + 1, S)
    else if kind ≠ 2 ∧ nameB name = false then (5, n + 1, S)
    else if kind = 1 then
      if has Dd (strL name) = true ∨ X name = true then (6, n + 1, S)
      else if low.length = 0 ∨ high.length = 0 then (8, n + 1, S)
      else if 6 < low.length ∨ 6 < high.length then (2, n + 1, S)
      else if firstE (low.map (boundE X)) ≠ 0 then (firstE (low.map (boundE X)), n + 1, S)
      else if firstE (high.map (boundE X)) ≠ 0 then (firstE (high.map (boundE X)), n + 1, S)
      else stepsR Dd Xd (d + 1) (insB X name) (n + 1) S body
    else if kind = 2 then
      if conds.length = 0 then (8, n + 1, S)
      else if 6 < conds.length then (2, n + 1, S)
      else if firstE (conds.map fun f => inErr X f.1 f.2) ≠ 0 then (firstE (conds.map fun f => inErr X f.1 f.2), n + 1, S)
      else stepsR Dd Xd (d + 1) X (n + 1) S body
    else if S name = true then (6, n + 1, S)
    else if placeE Dd Xd X arr subs ≠ 0 then (placeE Dd Xd X arr subs, n + 1, insB S name)
    else (exprE Dd Xd X 1 x, n + 1, insB S name)
/-- What is wrong with steps at a depth. -/
def stepsR (Dd : Table) (Xd : ByteArray → Int) (d : Nat) (X : ByteArray → Bool) (n : Int) (S : ByteArray → Bool) : List StepD → Int × Int × (ByteArray → Bool)
  | [] => (0, n, S)
  | s :: r => if (stepR Dd Xd d X n S s).1 = 0 then stepsR Dd Xd d X (stepR Dd Xd d X n S s).2.1 (stepR Dd Xd d X n S s).2.2 r else stepR Dd Xd d X n S s
end
end Go.Proofs.YtblpknkgjkbacaaGreatDoor
namespace Go.Proofs.YtblpknkgjkbacaaGreatDoor
open Go.RowKit
def ptErr : ByteArray → List (ByteArray × Int) → Int
  | _, [] => 0
  | last, t :: r => if nameB t.1 then (if !inB t.2 (-1000000) 1000000 then 1 else if leB t.1 last then 7 else ptErr t.1 r) else 5
theorem ptErr_drop {ts : List (ByteArray × Int)} {k : Nat} {t : ByteArray × Int} (last : ByteArray) (h : ts[k]? = some t) :
    ptErr last (ts.drop k) = if nameB t.1 then (if !inB t.2 (-1000000) 1000000 then 1 else if leB t.1 last then 7 else ptErr t.1 (ts.drop (k + 1))) else 5 := by
  obtain ⟨hk, rfl⟩ := List.getElem?_eq_some_iff.1 h
  rw [List.drop_eq_getElem_cons hk]
  rfl
set_option maxHeartbeats 2000000 in
theorem pointFault_any (ts : List (ByteArray × Int)) (v : Value) (w : World) (ht : TermsAt w v ts) :
    Calls Tryz.prog 13 #[v] w (Gives (.int .i64 (ptErr ByteArray.empty ts)) w) := by
  obtain ⟨p, cap, rfl, hl, hc⟩ := ht
  unfold maxLen at hl
  have H := Lib.hid hc
  clear hc
  go_enter Tryz.func13, Tryz.ntmps13
  go_wp2
  go_loopw [3, 8] (fun last i wr => ∃ k : Nat, ∃ s : ByteArray, k ≤ ts.length ∧ i = .int .i64 k ∧ last = .string s ∧ Hid (ptErr s (ts.drop k) = ptErr ByteArray.empty ts) ∧ w.grownBy wr none) (fun _ i _ => ts.length - (intOf i).toNat)
  case atStart => exact ⟨0, ByteArray.empty, Nat.zero_le _, rfl, rfl, rfl, grownBy_refl _ _⟩
  case round =>
    obtain ⟨k, s, hk, rfl, rfl, HR, hg⟩ := hrel
    by_cases hlt : k < ts.length
    · have h0 := List.getElem?_eq_getElem hlt
      obtain ⟨b, off, rfl, h3, h4, h5, h6, h7⟩ := (H.out k _ h0).kept hg
      have HS := Lib.hid (ptErr_drop s h0)
      generalize hn : (ts[k]).1 = n at *
      generalize hz : (ts[k]).2 = z at *
      have G := Lib.hid hg
      clear hg h0 hn hz
      go_wp2_with (first | (go_at_call 36; refine (in_any _ _ _ _).mono ?_; rintro e w' ⟨rfl, rfl⟩) | (go_at_call 37; refine (name_any _ _ ‹_›).mono ?_; rintro e w' ⟨rfl, hg1⟩; have q0 : w'.cell? ⟨wr.heap.size, 0, none⟩ = some (.string n) := hg1.cell (by simp) (by simp); have q1 : w'.cell? ⟨wr.heap.size, 1, none⟩ = some (.int .i64 z) := hg1.cell (by simp) (by simp); have G1 := Lib.hid hg1; clear hg1))
      all_goals first
        | (go_ret
           exact ⟨ret_i64 (by rw [← HR.out, HS.out]; clear HR HS H G G1; simp_all [leB]), grownBy_trans G.out (grownBy_trans (World.grownBy_alloc _ _ _) G1.out)⟩)
        | (go_roundw
           case rel => exact ⟨k + 1, n, by omega, by go_num, rfl, by show _ = _; rw [← HR.out, HS.out]; clear HR HS H G G1; simp_all [leB], grownBy_trans G.out (grownBy_trans (World.grownBy_alloc _ _ _) G1.out)⟩
           case measure => simp [intOf]; omega)
    · obtain rfl : k = ts.length := by omega
      go_wp2
      go_ret
      exact ⟨ret_i64 (by rw [← HR.out]; simp [ptErr]), hg⟩
set_option maxHeartbeats 2000000 in
theorem checkPoint_any (ts : List (ByteArray × Int)) (v : Value) (w : World) (ht : TermsAt w v ts) :
    Calls Tryz.prog 27 #[v] w (Gives (.int .i64 (ptErr ByteArray.empty ts)) w) := by
  obtain ⟨p, cap, rfl, hl, hc⟩ := ht
  unfold maxLen at hl
  have H := Lib.hid hc
  clear hc
  go_enter Tryz.func27, Tryz.ntmps27
  go_wp2
  go_loopw [7] (fun i wr => ∃ k : Nat, k ≤ ts.length ∧ i = .int .i64 k ∧ Hid (ptErr (lastName ts k) (ts.drop k) = ptErr ByteArray.empty ts) ∧ Hid (w.grownBy wr none)) (fun i _ => ts.length - (intOf i).toNat)
  case atStart => exact ⟨0, Nat.zero_le _, rfl, rfl, grownBy_refl _ _⟩
  case round =>
    obtain ⟨k, hk, rfl, HR, G⟩ := hrel
    by_cases hlt : k < ts.length
    · have h0 := List.getElem?_eq_getElem hlt
      obtain ⟨b, off, rfl, h3, h4, h5, h6, h7⟩ := (H.out k _ h0).kept G.out
      have HS := Lib.hid (ptErr_drop (lastName ts k) h0)
      have HL := Lib.hid (lastName_succ h0)
      generalize hn : (ts[k]).1 = n at *
      generalize hz : (ts[k]).2 = z at *
      clear h0 hn hz
      by_cases hk0 : k = 0
      · subst hk0
        simp only [Nat.zero_mul, Nat.add_zero] at h6 h7
        have HL0 := Lib.hid (show lastName ts 0 = ByteArray.empty from rfl)
        go_wp2_with (first | (go_at_call 31; refine (within_any _ _ _ (by omega) (by omega)).mono ?_; rintro e w' ⟨rfl, rfl⟩) | (go_at_call 35; refine (isName_any _ _ ‹_›).mono ?_; rintro e w' ⟨rfl, rfl⟩))
        all_goals try go_quiet (fail)
        all_goals try go_wp2
        all_goals first
          | (go_ret
             exact ⟨ret_i64 (by rw [← HR.out, HS.out]; clear HR HS H G HL; simp_all), grownBy_trans G.out (World.grownBy_alloc _ _ _)⟩)
          | (have hN : nameB n = true := by clear HR HS H G HL; simp_all
             have hE := Lib.hid (leB_empty hN)
             go_roundw
             case rel => exact ⟨1, by omega, by go_num, by show _ = _; rw [HL.out, ← HR.out, HS.out, HL0.out, hE.out]; clear HR HS H G HL; simp_all, grownBy_trans G.out (grownBy_trans (World.grownBy_alloc _ _ _) (grownBy_drewN _ _ _))⟩
             case measure => simp [intOf]; omega)
      · obtain ⟨m, rfl⟩ := Nat.exists_eq_succ_of_ne_zero hk0
        have hm0 : m < ts.length := by omega
        obtain ⟨b', off', hbb, _, _, _, h6', _⟩ := (H.out m _ (List.getElem?_eq_getElem hm0)).kept G.out
        have HL' := Lib.hid (lastName_succ (List.getElem?_eq_getElem hm0))
        generalize hn' : (ts[m]).1 = n' at *
        simp only [Option.some.injEq, Addr.mk.injEq] at hbb
        obtain ⟨rfl, rfl, _⟩ := hbb
        have a2 : (wr.alloc (.cells #[.string n, .int .i64 z] 61)).cell? ⟨b, off + m * 2, none⟩ = some (.string n') := (World.grownBy_alloc _ _ none).cell h6' (by simp)
        clear hn' h6'
        go_wp2_with (first | (go_at_call 31; refine (within_any _ _ _ (by omega) (by omega)).mono ?_; rintro e w' ⟨rfl, rfl⟩) | (go_at_call 35; refine (isName_any _ _ ‹_›).mono ?_; rintro e w' ⟨rfl, rfl⟩))
        all_goals try go_quiet (fail)
        all_goals try go_wp2
        all_goals first
          | (go_ret
             exact ⟨ret_i64 (by rw [← HR.out, HS.out, HL'.out]; clear HR HS H G HL HL'; simp_all [leB]), grownBy_trans G.out (grownBy_trans (World.grownBy_alloc _ _ _) (grownBy_drewN _ _ _))⟩)
          | (go_ret
             exact ⟨ret_i64 (by rw [← HR.out, HS.out, HL'.out]; clear HR HS H G HL HL'; simp_all), grownBy_trans G.out (World.grownBy_alloc _ _ _)⟩)
          | (go_roundw
             case rel => exact ⟨m + 1 + 1, by omega, by go_num, by show _ = _; rw [HL.out, ← HR.out, HS.out, HL'.out]; clear HR HS H G HL HL'; simp_all [leB], grownBy_trans G.out (grownBy_trans (World.grownBy_alloc _ _ _) (grownBy_drewN _ _ _))⟩
             case measure => simp [intOf]; omega)
    · obtain rfl : k = ts.length := by omega
      go_wp2
      go_ret
      exact ⟨ret_i64 (by rw [← HR.out]; simp [ptErr]), G.out⟩
end Go.Proofs.YtblpknkgjkbacaaGreatDoor
