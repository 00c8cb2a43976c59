/-
 spaceOf: a set as a space.
-/
import Derived.Test.YtfilcaolgfghcaaGreatRow
import Derived.Test.YtfilcaolgfghcaaGreatCheckSet
import Derived.Test.YtfilcaolgfghcaaGreatParts
import Derived.Laws.ResultCell
import Derived.Laws.Rows
namespace Go.Proofs.YtfilcaolgfghcaaGreat
open Go.RowKit
attribute [local go_sem ↓] Go.wp_at_zero Go.wp_at_succ

def rowCells (q : RowD × Value) : List Value := [.int .i64 q.1.1, q.2]

/-- The rows so far: a row of them, and a block of numbers for each. -/
structure RSt (w : World) (P : Nat) (kv : Value) (rs : List RowD) (cvs : List Value) : Prop where
  len : cvs.length = rs.length
  row : w.ownsRow P 79 2 kv rs.length ((rs.zip cvs).flatMap rowCells)
  coefs : ∀ (j : Nat) (r : RowD) (cv : Value), rs[j]? = some r → cvs[j]? = some cv → ∃ Cb, cv = .slice (some ⟨Cb, 0, none⟩) r.2.length r.2.length ∧ P ≤ Cb ∧ w.heap[Cb]? = some (.cells (r.2.map (Value.int .i64)).toArray 3 (0, 0)) ∧ some Cb ≠ kv.ownBlock

theorem RSt.start (w : World) (P : Nat) : RSt w P (.slice none 0 0) [] [] := ⟨rfl, World.ownsRow_nil _ _ _ _, fun j f tv h => by simp at h⟩

theorem RSt.kept {w w' : World} {P : Nat} {kv : Value} {rs : List RowD} {cvs : List Value} {r : Option Nat} (h : RSt w P kv rs cvs) (hg : w.grownBy w' r) (hr : ∀ k, r = some k → k < P) : RSt w' P kv rs cvs := by
  refine ⟨h.len, ?_, fun j q cv h1 h2 => ?_⟩
  · refine h.row.kept hg ?_
    cases hb : Value.ownBlock _ with
    | none => exact .inl rfl
    | some g =>
      refine .inr fun e => ?_
      have := (h.row.lt g hb).1
      have := hr g e.symm
      omega
  · obtain ⟨Cb, e1, e2, e3, e4⟩ := h.coefs j q cv h1 h2
    exact ⟨Cb, e1, e2, (hg.block Cb (Array.getElem?_eq_some_iff.1 e3).1 (fun e => by have := hr Cb e.symm; omega)).trans e3, e4⟩

theorem ints_of_block {w : World} {b : Nat} {xs : List Int} (cap : Nat) (h : w.heap[b]? = some (.cells (xs.map (Value.int .i64)).toArray 3 (0, 0))) (hl : xs.length ≤ 1000000) (hb : ∀ x ∈ xs, -9223372036854775808 ≤ x ∧ x ≤ 9223372036854775807) : IntsAt w (.slice (some ⟨b, 0, none⟩) xs.length cap) xs := by
  refine ⟨_, cap, rfl, hl, fun j x hj => ⟨b, 0, rfl, hb x (List.mem_of_getElem? hj), ?_⟩⟩
  obtain ⟨hj1, rfl⟩ := List.getElem?_eq_some_iff.1 hj
  simp [World.cell?, h, hj1]

theorem RSt.rows {w : World} {P n : Nat} {kv : Value} {rs : List RowD} {cvs : List Value} (h : RSt w P kv rs cvs) (hl : rs.length ≤ 1000000) (hn : n ≤ 1000) (hg : ∀ r ∈ rs, goodRow n r) : RowLAt w kv rs := by
  obtain ⟨p, cap, hv⟩ := own_form h.row
  refine ⟨p, cap, hv, hl, fun j f hj => ?_⟩
  have hjl := (List.getElem?_eq_some_iff.1 hj).1
  have hjt : cvs[j]? = some (cvs[j]'(by rw [h.len]; exact hjl)) := List.getElem?_eq_getElem _
  generalize cvs[j]'(by rw [h.len]; exact hjl) = tv at hjt
  have hz : (rs.zip cvs)[j]? = some (f, tv) := by
    rw [List.getElem?_zip_eq_some]
    exact ⟨hj, hjt⟩
  obtain ⟨g1, ⟨g2, g3⟩, g4⟩ := hg f (List.mem_of_getElem? hj)
  obtain ⟨b, c1, e1, _, k1⟩ := own_cell h.row (flat_get (k := 2) (fun _ => rfl) hz (i := 0) (v := .int .i64 f.1) rfl)
  obtain ⟨b2, c2, e2, _, k2⟩ := own_cell h.row (flat_get (k := 2) (fun _ => rfl) hz (i := 1) (v := tv) rfl)
  rw [hv] at e1 e2
  obtain ⟨rfl, _, _⟩ := Value.slice.inj e1
  obtain ⟨ee, _, _⟩ := Value.slice.inj e2
  cases ee
  obtain ⟨Cb, d1, d2, d3, d4⟩ := h.coefs j f tv hj hjt
  subst d1
  exact ⟨b, 0, _, rfl, by simpa using k1, by simpa using k2, ints_of_block _ d3 (by omega) (fun x hx => by have := g4 x hx; omega)⟩

theorem RSt.push {w w1 w2 : World} {P Cb : Nat} {kv : Value} {rs : List RowD} {cvs : List Value} {r : RowD} {o : Obj} {g cap : Nat} (h : RSt w P kv rs cvs) (hP : P ≤ w.heap.size)
    (k1 : w.grownBy w1 none) (hC : w.heap.size ≤ Cb) (hb : w1.heap[Cb]? = some (.cells (r.2.map (Value.int .i64)).toArray 3 (0, 0))) (k2 : (w1.alloc o).grownBy w2 kv.ownBlock)
    (row : w2.ownsRow P 79 2 (.slice (some ⟨g, 0, none⟩) (rs.length + 1) cap) (rs.length + 1) ((rs.zip cvs).flatMap rowCells ++ rowCells (r, .slice (some ⟨Cb, 0, none⟩) r.2.length r.2.length))) (hg : kv.ownBlock = some g ∨ w1.heap.size ≤ g) :
    RSt w2 P (.slice (some ⟨g, 0, none⟩) (rs.length + 1) cap) (rs ++ [r]) (cvs ++ [.slice (some ⟨Cb, 0, none⟩) r.2.length r.2.length]) := by
  have hob : ∀ k, kv.ownBlock = some k → P ≤ k ∧ k < w.heap.size := h.row.lt
  have h1 := (h.kept k1 (fun k hk => by cases hk)).kept (World.grownBy_alloc w1 o none) (fun k hk => by cases hk)
  have hbl : Cb < w1.heap.size := (Array.getElem?_eq_some_iff.1 hb).1
  have keep : ∀ {k : Nat} {x : Obj}, (w1.alloc o).heap[k]? = some x → some k ≠ kv.ownBlock → w2.heap[k]? = some x := fun hx hn => (k2.block _ (Array.getElem?_eq_some_iff.1 hx).1 hn).trans hx
  refine ⟨by simp [h.len], ?_, fun j q cv hj hcv => ?_⟩
  · rw [List.length_append, List.zip_append (by rw [h.len]), List.flatMap_append]
    simpa using row
  · by_cases hj' : j < rs.length
    · rw [List.getElem?_append_left hj'] at hj
      rw [List.getElem?_append_left (by rw [h.len]; exact hj')] at hcv
      obtain ⟨C, d1, d2, d3, d4⟩ := h1.coefs j q cv hj hcv
      obtain ⟨C', d1', _, d3', _⟩ := h.coefs j q cv hj hcv
      refine ⟨C, d1, d2, keep d3 d4, fun e => ?_⟩
      have e : C = g := Option.some.inj e
      subst d1
      cases d1'
      have hlt := (Array.getElem?_eq_some_iff.1 d3').1
      rcases hg with hg | hg
      · exact d4 (by rw [hg, e])
      · have := k1.size
        omega
    · have hj2 : j = rs.length := by
        have := (List.getElem?_eq_some_iff.1 hj).1
        simp at this
        omega
      subst hj2
      simp at hj
      subst hj
      rw [← h.len] at hcv
      simp at hcv
      subst hcv
      have hne : some Cb ≠ kv.ownBlock := fun e => by have := hob Cb e.symm; omega
      refine ⟨Cb, rfl, by omega, keep ?_ hne, fun e => ?_⟩
      · rw [Below.heap_alloc _ _ _ hbl]
        exact hb
      · have e : Cb = g := Option.some.inj e
        rcases hg with hg | hg
        · exact hne (by rw [hg, e])
        · omega

def rowsOf (S : List SideD × List CondD) : List RowD := S.2.map fun f => (f.1, coefsOf S.1 f.2)

/-- A space: the set's sides, and rows of the call's own. -/
def SpacePost (S : List SideD × List CondD) (sv : Value) (w : World) (e : Ending) (w' : World) : Prop :=
  w.grownBy w' none ∧ (setErr S ≠ 0 → e = .returned (.tuple #[.agg #[.slice none 0 0, .slice none 0 0], .int .i64 (setErr S)])) ∧
    (setErr S = 0 → ∃ kv, e = .returned (.tuple #[.agg #[sv, kv], .int .i64 0]) ∧ RowLAt w' kv (rowsOf S))

theorem rows_good {S : List SideD × List CondD} (h : setErr S = 0) : ∀ r ∈ rowsOf S, goodRow S.1.length r := by
  obtain ⟨_, _, _, g4⟩ := set_good h
  intro r hr
  obtain ⟨f, hf, rfl⟩ := List.mem_map.1 hr
  exact coefs_good (conds_good g4 f hf).1


/-- The state of spaceOf's loop: the set's box, the result's place, the space so far. -/
structure SpSt (w0 w : World) (A : Nat) (sv cv kv : Value) : Prop where
  grown : w0.grownBy w none
  newA : w0.heap.size + 2 ≤ A
  box : w.heap[w0.heap.size]? = some (.cells #[sv, cv] 29 (0, 0))
  res : w.heap[w0.heap.size + 1]? = some (.cells #[.slice none 0 0, .slice none 0 0] 77 (0, 0))
  spc : w.heap[A]? = some (.cells #[sv, kv] 77 (0, 0))

variable {w0 w w' : World} {A : Nat} {sv cv kv : Value}

theorem heap_keep {w w' : World} {r : Option Nat} {k : Nat} {o : Obj} (h : w.heap[k]? = some o) (hg : w.grownBy w' r) (hn : r ≠ some k) : w'.heap[k]? = some o := (hg.block _ (Array.getElem?_eq_some_iff.1 h).1 (fun e => hn e.symm)).trans h

theorem SpSt.own {r : Option Nat} (h : SpSt w0 w A sv cv kv) (hg : w.grownBy w' r) (hr : ∀ k, r = some k → A < k) : SpSt w0 w' A sv cv kv := by
  have hA := h.newA
  refine ⟨grown_own h.grown hg (fun k hk => by have := hr k hk; omega), h.newA, heap_keep h.box hg (fun e => by have := hr _ e; omega), heap_keep h.res hg (fun e => by have := hr _ e; omega), heap_keep h.spc hg (fun e => by have := hr _ e; omega)⟩
theorem SpSt.kept (h : SpSt w0 w A sv cv kv) (hg : w.grownBy w' none) : SpSt w0 w' A sv cv kv := h.own hg (fun k hk => by cases hk)
theorem SpSt.set (h : SpSt w0 w A sv cv kv) (v : Value) : SpSt w0 (w.setCell ⟨A, 1, none⟩ v) A sv cv v := by
  have hA := h.newA
  have hg := grown_set w A 1 v
  refine ⟨grown_own h.grown hg (fun k hk => by cases hk; omega), h.newA, heap_keep h.box hg (by simp; omega), heap_keep h.res hg (by simp; omega), ?_⟩
  show (w.heap.modify A _)[A]? = _
  rw [Array.getElem?_modify, if_pos rfl, h.spc]
  simp
theorem SpSt.a0 (h : SpSt w0 w A sv cv kv) : w.cell? ⟨A, 0, none⟩ = some sv := by simp [World.cell?, h.spc]
theorem SpSt.a1 (h : SpSt w0 w A sv cv kv) : w.cell? ⟨A, 1, none⟩ = some kv := by simp [World.cell?, h.spc]
theorem SpSt.af (h : SpSt w0 w A sv cv kv) (k : Nat) : w.frozen? ⟨A, k, none⟩ = false := by simp [World.frozen?, h.spc]
theorem SpSt.b0 (h : SpSt w0 w A sv cv kv) : w.cell? ⟨w0.heap.size, 0, none⟩ = some sv := by simp [World.cell?, h.box]
theorem SpSt.b1 (h : SpSt w0 w A sv cv kv) : w.cell? ⟨w0.heap.size, 1, none⟩ = some cv := by simp [World.cell?, h.box]
theorem SpSt.r0 (h : SpSt w0 w A sv cv kv) : w.cell? ⟨w0.heap.size + 1, 0, none⟩ = some (.slice none 0 0) := by simp [World.cell?, h.res]
theorem SpSt.r1 (h : SpSt w0 w A sv cv kv) : w.cell? ⟨w0.heap.size + 1, 1, none⟩ = some (.slice none 0 0) := by simp [World.cell?, h.res]
theorem SpSt.rf (h : SpSt w0 w A sv cv kv) (k : Nat) : w.frozen? ⟨w0.heap.size + 1, k, none⟩ = false := by simp [World.frozen?, h.res]

theorem Tryz.infoRow : (Tryz.prog.info? 79).map (fun i => (i.zero, i.size, i.bytes)) = some (some (.agg #[.int .i64 0, .slice none 0 0]), 2, 32) := by kernel_rfl
theorem Tryz.infoSpace2 : (Tryz.prog.info? 77).map (·.size) = some 2 := by kernel_rfl

theorem results_space {fn : Func} {p u : Tmp} (h : fn.results = #[.cell p 77, .tmp u]) (tmps : Array Value) (w : World) (g : Nat) (t : TypeId) (a b : Value) (fr : Nat × Nat)
    (hp : tmps.getD p undef = .pointer (some ⟨g, 0, none⟩)) (hg : w.heap[g]? = some (.cells #[a, b] t fr)) :
    (results fn tmps).run Tryz.prog w = .ok (.tuple #[.agg #[a, b], tmps.getD u undef]) w := by
  rw [results_cell_tmp h, hp]
  simp [asAddr, run_loadVar_row w g t 77 #[a, b] fr _ hg Tryz.underlying77 rfl Tryz.infoSpace2, Result.andThen]

theorem two_boxes (w : World) (a b : Value) :
    ((w.alloc (.cells #[a, b] 29)).alloc (.cells #[.slice none 0 0, .slice none 0 0] 77)).heap[w.heap.size]? = some (.cells #[a, b] 29 (0, 0)) ∧
    ((w.alloc (.cells #[a, b] 29)).alloc (.cells #[.slice none 0 0, .slice none 0 0] 77)).heap[w.heap.size + 1]? = some (.cells #[.slice none 0 0, .slice none 0 0] 77 (0, 0)) := by
  constructor
  · show ((w.heap.push _).push _)[w.heap.size]? = _
    simp only [Array.getElem?_push, Array.size_push]
    rw [if_neg (by simp), if_pos trivial]
  · show ((w.heap.push _).push _)[w.heap.size + 1]? = _
    simp only [Array.getElem?_push, Array.size_push]
    rw [if_pos trivial]

/-- What a check of the set leaves: the two boxes. -/
def Boxes (w w1 : World) (a b : Value) : Prop :=
  w.grownBy w1 none ∧ w.heap.size + 2 ≤ w1.heap.size ∧ w1.heap[w.heap.size]? = some (.cells #[a, b] 29 (0, 0)) ∧ w1.heap[w.heap.size + 1]? = some (.cells #[.slice none 0 0, .slice none 0 0] 77 (0, 0))
theorem boxes_of {w w1 : World} {a b : Value} (h : ((w.alloc (.cells #[a, b] 29)).alloc (.cells #[.slice none 0 0, .slice none 0 0] 77)).grownBy w1 none) : Boxes w w1 a b := by
  obtain ⟨h1, h2⟩ := two_boxes w a b
  have hs := h.size
  simp at hs
  exact ⟨grownBy_trans (World.grownBy_alloc _ _ _) (grownBy_trans (World.grownBy_alloc _ _ _) h), by omega, heap_keep h1 h (by simp), heap_keep h2 h (by simp)⟩
theorem Boxes.spc {w w1 : World} {a b : Value} (h : Boxes w w1 a b) : SpSt w (w1.alloc (.cells #[a, .slice none 0 0] 77)) w1.heap.size a b (.slice none 0 0) := by
  obtain ⟨h1, h2, h3, h4⟩ := h
  exact ⟨grownBy_trans h1 (World.grownBy_alloc _ _ _), h2, heap_keep h3 (World.grownBy_alloc _ _ none) (by simp), heap_keep h4 (World.grownBy_alloc _ _ none) (by simp), by show (w1.heap.push _)[w1.heap.size]? = _; simp⟩

/-- The result is written. -/
theorem res_done {x y : Value} {T : TypeId} (hr : w.heap[w0.heap.size + 1]? = some (.cells #[x, y] T (0, 0))) (h : w0.grownBy w none) (a b : Value) : w0.grownBy ((w.setCell ⟨w0.heap.size + 1, 0, none⟩ a).setCell ⟨w0.heap.size + 1, 1, none⟩ b) none ∧ w.grownBy ((w.setCell ⟨w0.heap.size + 1, 0, none⟩ a).setCell ⟨w0.heap.size + 1, 1, none⟩ b) (some (w0.heap.size + 1)) ∧
    ((w.setCell ⟨w0.heap.size + 1, 0, none⟩ a).setCell ⟨w0.heap.size + 1, 1, none⟩ b).heap[w0.heap.size + 1]? = some (.cells #[a, b] T (0, 0)) := by
  have hg : w.grownBy ((w.setCell ⟨w0.heap.size + 1, 0, none⟩ a).setCell ⟨w0.heap.size + 1, 1, none⟩ b) (some (w0.heap.size + 1)) := grownBy_trans (grown_set _ _ _ _) (grown_set _ _ _ _)
  exact ⟨grown_own h hg (fun k hk => by cases hk; omega), hg, by simp [World.setCell, Array.getElem?_modify, hr]⟩

set_option maxRecDepth 100000 in
set_option maxHeartbeats 4000000 in
theorem spaceOf_any (S : List SideD × List CondD) (sv cv : Value) (w : World) (hS : SetAt w sv cv S) :
    Calls Tryz.prog 40 #[.agg #[sv, cv]] w (SpacePost S sv w) := by
  obtain ⟨sides, conds⟩ := S
  obtain ⟨⟨p, cap, hsv, hl, hc⟩, ⟨pc, ccap, hcv, hcl, hcc⟩⟩ := id hS
  simp only at hsv hl hc hcv hcl hcc
  subst hsv hcv
  have HS := Lib.hid hS
  have HCC := Lib.hid hcc
  have HSd : Hid (SidesAt w (.slice p sides.length cap) sides) := ⟨p, cap, rfl, hl, hc⟩
  clear hS hcc hc
  by_cases hE : setErr (sides, conds) = 0
  · have hE0 : (setErr (sides, conds) != 0) = false := by simp [hE]
    have HE := Lib.hid hE
    obtain ⟨g1, g2, g3, g4⟩ := set_good hE
    clear g2
    have HG4 := Lib.hid g4
    have HGd := Lib.hid (fun f hf => (conds_good g4 f hf).2)
    simp only at g1 g3
    clear hE g4
    go_enter Tryz.func40, Tryz.ntmps40
    go_wp2_with (first | (go_at_call 75; refine (checkSet_any (sides, conds) _ _ _ (HS.out.kept (grownBy_trans (World.grownBy_alloc _ _ _) (World.grownBy_alloc _ _ _)))).mono ?_; rintro e w1 ⟨rfl, hg1⟩; have HB := Lib.hid (boxes_of hg1); rw [HE.out]; have HSp := Lib.hid HB.out.spc; have bx0 : w1.cell? ⟨w.heap.size, 0, none⟩ = some (.slice p sides.length cap) := (by simp [World.cell?, HB.out.2.2.1]); have bx1 := HSp.out.b1; clear hg1))
    obtain ⟨j0, hj0, hy0, hy1, hy2⟩ := info_parts Tryz.infoRow
    have HSz := Lib.hid (show w1.heap.size + 1 ≤ (w1.alloc (.cells #[.slice p sides.length cap, .slice none 0 0] 77)).heap.size by simp)
    generalize hA : w1.heap.size = A at *
    go_loopw [20] (fun i wr => ∃ (k : Nat) (rs : List RowD) (cvs : List Value) (kv : Value), k ≤ conds.length ∧ i = .int .i64 k ∧ Hid (rs.length = k) ∧ Hid (rs = (rowsOf (sides, conds)).take k) ∧ Hid (SpSt w wr A (.slice p sides.length cap) (.slice pc conds.length ccap) kv) ∧ Hid (RSt wr (A + 1) kv rs cvs) ∧ Hid (A + 1 ≤ wr.heap.size)) (fun i _ => conds.length - (intOf i).toNat)
    case atStart => exact ⟨0, [], [], _, Nat.zero_le _, rfl, rfl, rfl, HSp.out, RSt.start _ _, HSz.out⟩
    case round =>
      obtain ⟨k, rs, cvs, kv, hk, rfl, HLen, HRs, HSt, HRt, HSz2⟩ := hrel
      by_cases hlt : k < conds.length
      · have h0 := List.getElem?_eq_getElem hlt
        obtain ⟨b, off, tv, rfl, h3, h4, h5, h6, h7⟩ := (HCC.out k _ h0).kept HSt.out.grown
        obtain ⟨pt, ct, rfl, htl, htc⟩ := h5
        have HT : Hid (TermsAt wr (.slice pt (conds[k]).2.length ct) (conds[k]).2) := ⟨pt, ct, rfl, htl, htc⟩
        have HIn := Lib.hid (HGd.out _ (List.getElem_mem hlt))
        have HRk := Lib.hid (show (rowsOf (sides, conds)).take (k + 1) = (rowsOf (sides, conds)).take k ++ [((conds[k]).1, coefsOf sides (conds[k]).2)] by
          unfold rowsOf
          rw [List.take_succ_eq_append_getElem (by simpa using hlt)]
          simp)
        have a1 := HSt.out.a1
        have b0 := HSt.out.b0
        generalize hc : (conds[k]).1 = c at *
        generalize hts : (conds[k]).2 = ts at *
        have HCf := Lib.hid (coefs_length sides ts)
        have a1a := (World.grownBy_alloc wr (.cells #[.int .i64 c, .slice pt ts.length ct] 33) none).cell a1 (by simp)
        have b0a := (World.grownBy_alloc wr (.cells #[.int .i64 c, .slice pt ts.length ct] 33) none).cell b0 (by simp)
        have hwA := HSz2.out
        clear h0 htc hc hts
        go_wp2
        go_region_law (first
          | (go_simp; go_at_call 42; go_must (refine (rowOf_any c ts sides (.slice pt ts.length ct) (.slice p sides.length cap) _ (HT.out.kept (grown_ad _ _ _)) (HSd.out.kept (grownBy_trans HSt.out.grown (grown_ad _ _ _))) HIn.out (by omega)).mono ?_; rintro e w2 ⟨Cb, rfl, hC, hcb, hg2⟩; have HG2 := Lib.hid (grownBy_trans (grown_ad _ _ _) hg2); have c2 := HG2.out.cell a1 (by simp); have c2a := (World.grownBy_alloc w2 (.cells #[.int .i64 c, .slice (some ⟨Cb, 0, none⟩) sides.length sides.length] 79) none).cell c2 (by simp); have HCb := Lib.hid hcb; have HC := Lib.hid (show wr.heap.size ≤ Cb by simp at hC; omega); have hsz2 := HG2.out.size; clear hC hcb hg2))
          | (refine step_append_lies _ (by rfl) _ _ 75 (by rfl) (A + 1) 79 j0 (.agg #[.int .i64 0, .slice none 0 0]) 2 32 Tryz.underlying75 hj0 hy0 hy1 hy2 (by rfl) (by decide) kv rs.length ((rs.zip cvs).flatMap rowCells) (by rfl) (World.ownsRow.alloc (owns_kept HRt.out.row HG2.out) _) ⟨w2.heap.size, 0, none⟩ 1 1 (rowCells ((c, coefsOf sides ts), .slice (some ⟨Cb, 0, none⟩) sides.length sides.length)) (by rfl) (by rfl) news_at (by simp [rowCells, Value.oneCell']) (by decide) (by have := HLen.out; unfold maxLen; omega) (by have := HLen.out; omega) (by simp; omega) (w2.heap.size + 1) (by simp) ?_; intro g ncap w3 hown3 hgrow3 hat _; have HS3 := Lib.hid (((HSt.out.kept HG2.out).kept (World.grownBy_alloc _ _ none)).own hgrow3 (fun k hk => by have := (HRt.out.row.lt _ hk).1; omega)); have c3 := HS3.out.a1; have f3 := HS3.out.af 1; have O3 := Lib.hid hown3; have A3 := Lib.hid hat; have G3 := Lib.hid hgrow3; clear hown3 hgrow3 hat))
        all_goals
          go_wp2
          go_roundw
          case rel =>
            have hrs := HRs.out
            have hlen := HLen.out
            refine ⟨k + 1, rs ++ [(c, coefsOf sides ts)], cvs ++ [.slice (some ⟨Cb, 0, none⟩) sides.length sides.length], .slice (some ⟨g, 0, none⟩) (rs.length + 1) ncap, by omega, by go_num, ?_, ?_, HS3.out.set _, ?_, ?_⟩
            · show _ = _
              simp [hlen]
            · show _ = _
              rw [HRk.out, hrs]
            · have hcf := HCf.out
              have h := HRt.out.push (w1 := w2) (r := (c, coefsOf sides ts)) HSz2.out HG2.out HC.out HCb.out G3.out (by rw [hcf]; exact O3.out) (by rcases A3.out with h | h; exact .inl h; exact .inr (by omega))
              rw [hcf] at h
              exact h.kept (grown_set _ A 1 _) (fun k hk => by cases hk; omega)
            · show _ ≤ _
              have h1 := G3.out.size
              have h2 := HG2.out.size
              simp [World.setCell] at h1 ⊢
              omega
          case measure => simp [intOf]; omega
      · obtain rfl : k = conds.length := by omega
        obtain ⟨pk, kcap, rfl⟩ := own_form HRt.out.row
        have a0 := HSt.out.a0
        have a1 := HSt.out.a1
        have r0 := HSt.out.r0
        have r1 := HSt.out.r1
        have rf := HSt.out.rf
        go_wp2
        obtain ⟨C1, C2, C3⟩ := res_done HSt.out.res HSt.out.grown (.slice p sides.length cap) (.slice pk rs.length kcap)
        have hne := HE.out
        refine bodyPost_ret (results_space rfl _ _ (w.heap.size + 1) _ _ _ _ rfl C3) rfl ⟨C1, fun h => absurd hne h, fun _ => ⟨_, rfl, ?_⟩⟩
        have hrs := HRs.out
        rw [List.take_of_length_le (by simp [rowsOf])] at hrs
        have hn := HSt.out.newA
        have hk2 := HRt.out.kept C2 (fun k hk => by cases hk; omega)
        have h3 := hk2.rows (by rw [hrs]; simp [rowsOf]; omega) (n := sides.length) (by omega) (by rw [hrs]; exact rows_good hne)
        rw [← hrs]
        exact h3
  · have hE0 : (setErr (sides, conds) != 0) = true := by simp [hE]
    go_enter Tryz.func40, Tryz.ntmps40
    go_wp2_with (first | (go_at_call 75; refine (checkSet_any (sides, conds) _ _ _ (HS.out.kept (grownBy_trans (World.grownBy_alloc _ _ _) (World.grownBy_alloc _ _ _)))).mono ?_; rintro e w1 ⟨rfl, hg1⟩; have HB := Lib.hid (boxes_of hg1); have r0 : w1.cell? ⟨w.heap.size + 1, 0, none⟩ = some (.slice none 0 0) := (by simp [World.cell?, HB.out.2.2.2]); have r1 : w1.cell? ⟨w.heap.size + 1, 1, none⟩ = some (.slice none 0 0) := (by simp [World.cell?, HB.out.2.2.2]); have rf : ∀ k, w1.frozen? ⟨w.heap.size + 1, k, none⟩ = false := (fun k => by simp [World.frozen?, HB.out.2.2.2]); clear hg1))
    obtain ⟨B1, B2, B3, B4⟩ := HB.out
    obtain ⟨C1, _, C3⟩ := res_done B4 B1 (.slice none 0 0) (.slice none 0 0)
    exact bodyPost_ret (results_space rfl _ _ (w.heap.size + 1) _ _ _ _ rfl C3) rfl ⟨C1, fun _ => rfl, fun h => absurd h hE⟩

end Go.Proofs.YtfilcaolgfghcaaGreat
