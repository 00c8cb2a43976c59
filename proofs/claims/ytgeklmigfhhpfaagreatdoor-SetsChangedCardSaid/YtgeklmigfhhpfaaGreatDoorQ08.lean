/-
 spaceOf: a set as a space. FormOver: what is wrong with a form over a set.
-/
import Derived.Laws.ResultCell
import Derived.Laws.Rows
import Derived.Test.YtgeklmigfhhpfaaGreatDoorQ02
import Derived.Test.YtgeklmigfhhpfaaGreatDoorQ06
import Derived.Test.YtgeklmigfhhpfaaGreatDoorQ07
namespace Go.Proofs.YtgeklmigfhhpfaaGreatDoor
open Go.RowKit
attribute [local go_sem ↓] Go.wp_at_zero Go.wp_at_succ
def rowCells (q : RowD × Value) : List Value := [.int .i64 q.1.1, q.2]
structure RSt (w : World) (P : Nat) (kv : Value) (rs : List RowD) (cvs : List Value) : Prop where
 len : cvs.length = rs.length
 row : w.ownsRow P 86 2 kv rs.length ((rs.zip cvs).flatMap rowCells)
 coefs : ∀ (j : Nat) (r : RowD) (cv : Value), rs[j]? = some r → cvs[j]? = some cv → ∃ Cb, cv = .slice (some ⟨Cb, 0, none⟩) r.2.length r.2.length ∧ P ≤ Cb ∧ w.heap[Cb]? = some (.cells (r.2.map (Value.int .i64)).toArray 3 (0, 0)) ∧ some Cb ≠ kv.ownBlock
theorem RSt.start (w : World) (P : Nat) : RSt w P (.slice none 0 0) [] [] := ⟨rfl, World.ownsRow_nil _ _ _ _, fun j f tv h => by simp at h⟩
theorem RSt.kept {w w' : World} {P : Nat} {kv : Value} {rs : List RowD} {cvs : List Value} {r : Option Nat} (h : RSt w P kv rs cvs) (hg : w.grownBy w' r) (hr : ∀ k, r = some k → k < P) : RSt w' P kv rs cvs := by
 refine ⟨h.len, ?_, fun j q cv h1 h2 => ?_⟩
 · refine h.row.kept hg ?_
   cases hb : Value.ownBlock _ with
   | none => exact .inl rfl
   | some g =>
     refine .inr fun e => ?_
     have := (h.row.lt g hb).1
     have := hr g e.symm
     omega
 · obtain ⟨Cb, e1, e2, e3, e4⟩ := h.coefs j q cv h1 h2
   exact ⟨Cb, e1, e2, (hg.block Cb (Array.getElem?_eq_some_iff.1 e3).1 (fun e => by have := hr Cb e.symm; omega)).trans e3, e4⟩
theorem ints_of_block {w : World} {b : Nat} {xs : List Int} (cap : Nat) (h : w.heap[b]? = some (.cells (xs.map (Value.int .i64)).toArray 3 (0, 0))) (hl : xs.length ≤ 1000000) (hb : ∀ x ∈ xs, -9223372036854775808 ≤ x ∧ x ≤ 9223372036854775807) : IntsAt w (.slice (some ⟨b, 0, none⟩) xs.length cap) xs := by
 refine ⟨_, cap, rfl, hl, fun j x hj => ⟨b, 0, rfl, hb x (List.mem_of_getElem? hj), ?_⟩⟩
 obtain ⟨hj1, rfl⟩ := List.getElem?_eq_some_iff.1 hj
 simp [World.cell?, h, hj1]
theorem RSt.rows {w : World} {P n : Nat} {kv : Value} {rs : List RowD} {cvs : List Value} (h : RSt w P kv rs cvs) (hl : rs.length ≤ 1000000) (hn : n ≤ 1000) (hg : ∀ r ∈ rs, goodRow n r) : RowLAt w kv rs := by
 obtain ⟨p, cap, hv⟩ := own_form h.row
 refine ⟨p, cap, hv, hl, fun j f hj => ?_⟩
 have hjl := (List.getElem?_eq_some_iff.1 hj).1
 have hjt : cvs[j]? = some (cvs[j]'(by rw [h.len]; exact hjl)) := List.getElem?_eq_getElem _
 generalize cvs[j]'(by rw [h.len]; exact hjl) = tv at hjt
 have hz : (rs.zip cvs)[j]? = some (f, tv) := by
  rw [List.getElem?_zip_eq_some]
  exact ⟨hj, hjt⟩
 obtain ⟨g1, ⟨g2, g3⟩, g4⟩ := hg f (List.mem_of_getElem? hj)
 obtain ⟨b, c1, e1, _, k1⟩ := own_cell h.row (flat_get (k := 2) (fun _ => rfl) hz (i := 0) (v := .int .i64 f.1) rfl)
 obtain ⟨b2, c2, e2, _, k2⟩ := own_cell h.row (flat_get (k := 2) (fun _ => rfl) hz (i := 1) (v := tv) rfl)
 rw [hv] at e1 e2
 obtain ⟨rfl, _, _⟩ := Value.slice.inj e1
 obtain ⟨ee, _, _⟩ := Value.slice.inj e2
 cases ee
 obtain ⟨Cb, d1, d2, d3, d4⟩ := h.coefs j f tv hj hjt
 subst d1
 exact ⟨b, 0, _, rfl, by simpa using k1, by simpa using k2, ints_of_block _ d3 (by omega) (fun x hx => by have := g4 x hx; omega)⟩
theorem RSt.push {w w1 w2 : World} {P Cb : Nat} {kv : Value} {rs : List RowD} {cvs : List Value} {r : RowD} {o : Obj} {g cap : Nat} (h : RSt w P kv rs cvs) (hP : P ≤ w.heap.size)
  (k1 : w.grownBy w1 none) (hC : w.heap.size ≤ Cb) (hb : w1.heap[Cb]? = some (.cells (r.2.map (Value.int .i64)).toArray 3 (0, 0))) (k2 : (w1.alloc o).grownBy w2 kv.ownBlock)
  (row : w2.ownsRow P 86 2 (.slice (some ⟨g, 0, none⟩) (rs.length + 1) cap) (rs.length + 1) ((rs.zip cvs).flatMap rowCells ++ rowCells (r, .slice (some ⟨Cb, 0, none⟩) r.2.length r.2.length))) (hg : kv.ownBlock = some g ∨ w1.heap.size ≤ g) :
  RSt w2 P (.slice (some ⟨g, 0, none⟩) (rs.length + 1) cap) (rs ++ [r]) (cvs ++ [.slice (some ⟨Cb, 0, none⟩) r.2.length r.2.length]) := by
 have hob : ∀ k, kv.ownBlock = some k → P ≤ k ∧ k < w.heap.size := h.row.lt
 have h1 := (h.kept k1 (fun k hk => by cases hk)).kept (gA w1 o none) (fun k hk => by cases hk)
 have hbl : Cb < w1.heap.size := (Array.getElem?_eq_some_iff.1 hb).1
 have keep : ∀ {k : Nat} {x : Obj}, (w1.alloc o).heap[k]? = some x → some k ≠ kv.ownBlock → w2.heap[k]? = some x := fun hx hn => (k2.block _ (Array.getElem?_eq_some_iff.1 hx).1 hn).trans hx
 refine ⟨by simp [h.len], ?_, fun j q cv hj hcv => ?_⟩
 · rw [List.length_append, List.zip_append (by rw [h.len]), List.flatMap_append]
   simpa using row
 · by_cases hj' : j < rs.length
   · rw [List.getElem?_append_left hj'] at hj
     rw [List.getElem?_append_left (by rw [h.len]; exact hj')] at hcv
     obtain ⟨C, d1, d2, d3, d4⟩ := h1.coefs j q cv hj hcv
     obtain ⟨C', d1', _, d3', _⟩ := h.coefs j q cv hj hcv
     refine ⟨C, d1, d2, keep d3 d4, fun e => ?_⟩
     have e : C = g := Option.some.inj e
     subst d1
     cases d1'
     have hlt := (Array.getElem?_eq_some_iff.1 d3').1
     rcases hg with hg | hg
     · exact d4 (by rw [hg, e])
     · have := k1.size
       omega
   · have hj2 : j = rs.length := by
      have := (List.getElem?_eq_some_iff.1 hj).1
      simp at this
      omega
     subst hj2
     simp at hj
     subst hj
     rw [← h.len] at hcv
     simp at hcv
     subst hcv
     have hne : some Cb ≠ kv.ownBlock := fun e => by have := hob Cb e.symm; omega
     refine ⟨Cb, rfl, by omega, keep ?_ hne, fun e => ?_⟩
     · rw [Below.heap_alloc _ _ _ hbl]
       exact hb
     · have e : Cb = g := Option.some.inj e
       rcases hg with hg | hg
       · exact hne (by rw [hg, e])
       · omega
def rowsOf (S : List SideD × List CondD) : List RowD := S.2.map fun f => (f.1, coefsOf S.1 f.2)
def SpacePost (S : List SideD × List CondD) (sv : Value) (w : World) (e : Ending) (w' : World) : Prop :=
 w.grownBy w' none ∧ (setErr S ≠ 0 → e = .returned (.tuple #[.agg #[.slice none 0 0, .slice none 0 0], .int .i64 (setErr S)])) ∧
  (setErr S = 0 → ∃ kv, e = .returned (.tuple #[.agg #[sv, kv], .int .i64 0]) ∧ RowLAt w' kv (rowsOf S))
theorem rows_good {S : List SideD × List CondD} (h : setErr S = 0) : ∀ r ∈ rowsOf S, goodRow S.1.length r := by
 obtain ⟨_, _, _, g4⟩ := set_good h
 intro r hr
 obtain ⟨f, hf, rfl⟩ := List.mem_map.1 hr
 exact coefs_good (conds_good g4 f hf).1
structure SpSt (w0 w : World) (A : Nat) (sv cv kv : Value) : Prop where
 grown : w0.grownBy w none
 newA : w0.heap.size + 2 ≤ A
 box : w.heap[w0.heap.size]? = some (.cells #[sv, cv] 29 (0, 0))
 res : w.heap[w0.heap.size + 1]? = some (.cells #[.slice none 0 0, .slice none 0 0] 81 (0, 0))
 spc : w.heap[A]? = some (.cells #[sv, kv] 81 (0, 0))
variable {w0 w w' : World} {A : Nat} {sv cv kv : Value}
theorem kH {w w' : World} {r : Option Nat} {k : Nat} {o : Obj} (h : w.heap[k]? = some o) (hg : w.grownBy w' r) (hn : r ≠ some k) : w'.heap[k]? = some o := (hg.block _ (Array.getElem?_eq_some_iff.1 h).1 (fun e => hn e.symm)).trans h
theorem SpSt.own {r : Option Nat} (h : SpSt w0 w A sv cv kv) (hg : w.grownBy w' r) (hr : ∀ k, r = some k → A < k) : SpSt w0 w' A sv cv kv := by
 have hA := h.newA
 refine ⟨gO h.grown hg (fun k hk => by have := hr k hk; omega), h.newA, kH h.box hg (fun e => by have := hr _ e; omega), kH h.res hg (fun e => by have := hr _ e; omega), kH h.spc hg (fun e => by have := hr _ e; omega)⟩
theorem SpSt.kept (h : SpSt w0 w A sv cv kv) (hg : w.grownBy w' none) : SpSt w0 w' A sv cv kv := h.own hg (fun k hk => by cases hk)
theorem SpSt.set (h : SpSt w0 w A sv cv kv) (v : Value) : SpSt w0 (w.setCell ⟨A, 1, none⟩ v) A sv cv v := by
 have hA := h.newA
 have hg := gS w A 1 v
 refine ⟨gO h.grown hg (fun k hk => by cases hk; omega), h.newA, kH h.box hg (by simp; omega), kH h.res hg (by simp; omega), ?_⟩
 show (w.heap.modify A _)[A]? = _
 rw [Array.getElem?_modify, if_pos rfl, h.spc]
 simp
theorem SpSt.a0 (h : SpSt w0 w A sv cv kv) : w.cell? ⟨A, 0, none⟩ = some sv := by simp [World.cell?, h.spc]
theorem SpSt.a1 (h : SpSt w0 w A sv cv kv) : w.cell? ⟨A, 1, none⟩ = some kv := by simp [World.cell?, h.spc]
theorem SpSt.af (h : SpSt w0 w A sv cv kv) (k : Nat) : w.frozen? ⟨A, k, none⟩ = false := by simp [World.frozen?, h.spc]
theorem SpSt.b0 (h : SpSt w0 w A sv cv kv) : w.cell? ⟨w0.heap.size, 0, none⟩ = some sv := by simp [World.cell?, h.box]
theorem SpSt.b1 (h : SpSt w0 w A sv cv kv) : w.cell? ⟨w0.heap.size, 1, none⟩ = some cv := by simp [World.cell?, h.box]
theorem SpSt.r0 (h : SpSt w0 w A sv cv kv) : w.cell? ⟨w0.heap.size + 1, 0, none⟩ = some (.slice none 0 0) := by simp [World.cell?, h.res]
theorem SpSt.r1 (h : SpSt w0 w A sv cv kv) : w.cell? ⟨w0.heap.size + 1, 1, none⟩ = some (.slice none 0 0) := by simp [World.cell?, h.res]
theorem SpSt.rf (h : SpSt w0 w A sv cv kv) (k : Nat) : w.frozen? ⟨w0.heap.size + 1, k, none⟩ = false := by simp [World.frozen?, h.res]
theorem Tryz.infoRow : (Tryz.prog.info? 86).map (fun i => (i.zero, i.size, i.bytes)) = some (some (.agg #[.int .i64 0, .slice none 0 0]), 2, 32) := by kernel_rfl
theorem Tryz.infoSpace2 : (Tryz.prog.info? 81).map (·.size) = some 2 := by kernel_rfl
theorem results_space {fn : Func} {p u : Tmp} (h : fn.results = #[.cell p 81, .tmp u]) (tmps : Array Value) (w : World) (g : Nat) (t : TypeId) (a b : Value) (fr : Nat × Nat)
  (hp : tmps.getD p undef = .pointer (some ⟨g, 0, none⟩)) (hg : w.heap[g]? = some (.cells #[a, b] t fr)) :
  (results fn tmps).run Tryz.prog w = .ok (.tuple #[.agg #[a, b], tmps.getD u undef]) w := by
 rw [results_cell_tmp h, hp]
 simp [asAddr, run_loadVar_row w g t 81 #[a, b] fr _ hg Tryz.underlying81 rfl Tryz.infoSpace2, Result.andThen]
theorem two_boxes (w : World) (a b : Value) :
  ((w.alloc (.cells #[a, b] 29)).alloc (.cells #[.slice none 0 0, .slice none 0 0] 81)).heap[w.heap.size]? = some (.cells #[a, b] 29 (0, 0)) ∧
  ((w.alloc (.cells #[a, b] 29)).alloc (.cells #[.slice none 0 0, .slice none 0 0] 81)).heap[w.heap.size + 1]? = some (.cells #[.slice none 0 0, .slice none 0 0] 81 (0, 0)) := by
 constructor
 · show ((w.heap.push _).push _)[w.heap.size]? = _
   simp only [Array.getElem?_push, Array.size_push]
   rw [if_neg (by simp), if_pos trivial]
 · show ((w.heap.push _).push _)[w.heap.size + 1]? = _
   simp only [Array.getElem?_push, Array.size_push]
   rw [if_pos trivial]
def Boxes (w w1 : World) (a b : Value) : Prop :=
 w.grownBy w1 none ∧ w.heap.size + 2 ≤ w1.heap.size ∧ w1.heap[w.heap.size]? = some (.cells #[a, b] 29 (0, 0)) ∧ w1.heap[w.heap.size + 1]? = some (.cells #[.slice none 0 0, .slice none 0 0] 81 (0, 0))
theorem boxes_of {w w1 : World} {a b : Value} (h : ((w.alloc (.cells #[a, b] 29)).alloc (.cells #[.slice none 0 0, .slice none 0 0] 81)).grownBy w1 none) : Boxes w w1 a b := by
 obtain ⟨h1, h2⟩ := two_boxes w a b
 have hs := h.size
 simp at hs
 exact ⟨gT (gA _ _ _) (gT (gA _ _ _) h), by omega, kH h1 h (by simp), kH h2 h (by simp)⟩
theorem Boxes.spc {w w1 : World} {a b : Value} (h : Boxes w w1 a b) : SpSt w (w1.alloc (.cells #[a, .slice none 0 0] 81)) w1.heap.size a b (.slice none 0 0) := by
 obtain ⟨h1, h2, h3, h4⟩ := h
 exact ⟨gT h1 (gA _ _ _), h2, kH h3 (gA _ _ none) (by simp), kH h4 (gA _ _ none) (by simp), by show (w1.heap.push _)[w1.heap.size]? = _; simp⟩
theorem res_done {x y : Value} {T : TypeId} (hr : w.heap[w0.heap.size + 1]? = some (.cells #[x, y] T (0, 0))) (h : w0.grownBy w none) (a b : Value) : w0.grownBy ((w.setCell ⟨w0.heap.size + 1, 0, none⟩ a).setCell ⟨w0.heap.size + 1, 1, none⟩ b) none ∧ w.grownBy ((w.setCell ⟨w0.heap.size + 1, 0, none⟩ a).setCell ⟨w0.heap.size + 1, 1, none⟩ b) (some (w0.heap.size + 1)) ∧
  ((w.setCell ⟨w0.heap.size + 1, 0, none⟩ a).setCell ⟨w0.heap.size + 1, 1, none⟩ b).heap[w0.heap.size + 1]? = some (.cells #[a, b] T (0, 0)) := by
 have hg : w.grownBy ((w.setCell ⟨w0.heap.size + 1, 0, none⟩ a).setCell ⟨w0.heap.size + 1, 1, none⟩ b) (some (w0.heap.size + 1)) := gT (gS _ _ _ _) (gS _ _ _ _)
 exact ⟨gO h hg (fun k hk => by cases hk; omega), hg, by simp [World.setCell, Array.getElem?_modify, hr]⟩
set_option maxRecDepth 100000 in
set_option maxHeartbeats 4000000 in
theorem spaceOf_any (S : List SideD × List CondD) (sv cv : Value) (w : World) (hS : SetAt w sv cv S) :
  Calls Tryz.prog 49 #[.agg #[sv, cv]] w (SpacePost S sv w) := by
 obtain ⟨sides, conds⟩ := S
 obtain ⟨⟨p, cap, hsv, hl, hc⟩, ⟨pc, ccap, hcv, hcl, hcc⟩⟩ := id hS
 simp only at hsv hl hc hcv hcl hcc
 subst hsv hcv
 have HS := uH hS
 have HCC := uH hcc
 have HSd : Hid (SidesAt w (.slice p sides.length cap) sides) := ⟨p, cap, rfl, hl, hc⟩
 clear hS hcc hc
 by_cases hE : setErr (sides, conds) = 0
 · have hE0 : (setErr (sides, conds) != 0) = false := by simp [hE]
   have HE := uH hE
   obtain ⟨g1, g2, g3, g4⟩ := set_good hE
   clear g2
   have HG4 := uH g4
   have HGd := uH (fun f hf => (conds_good g4 f hf).2)
   simp only at g1 g3
   clear hE g4
   go_enter Tryz.func49, Tryz.ntmps49
   go_wp2_with (first | (go_at_call 95; refine (checkSet_any (sides, conds) _ _ _ (HS.out.kept (gT (gA _ _ _) (gA _ _ _)))).mono ?_; rintro e w1 ⟨rfl, hg1⟩; have HB := uH (boxes_of hg1); rw [HE.out]; have HSp := uH HB.out.spc; have bx0 : w1.cell? ⟨w.heap.size, 0, none⟩ = some (.slice p sides.length cap) := (by simp [World.cell?, HB.out.2.2.1]); have bx1 := HSp.out.b1; clear hg1))
   obtain ⟨j0, hj0, hy0, hy1, hy2⟩ := info_parts Tryz.infoRow
   have HSz := uH (show w1.heap.size + 1 ≤ (w1.alloc (.cells #[.slice p sides.length cap, .slice none 0 0] 81)).heap.size by simp)
   generalize hA : w1.heap.size = A at *
   go_loopw [20] (fun i wr => ∃ (k : Nat) (rs : List RowD) (cvs : List Value) (kv : Value), k ≤ conds.length ∧ i = .int .i64 k ∧ Hid (rs.length = k) ∧ Hid (rs = (rowsOf (sides, conds)).take k) ∧ Hid (SpSt w wr A (.slice p sides.length cap) (.slice pc conds.length ccap) kv) ∧ Hid (RSt wr (A + 1) kv rs cvs) ∧ Hid (A + 1 ≤ wr.heap.size)) (fun i _ => conds.length - (intOf i).toNat)
   case atStart => exact ⟨0, [], [], _, Nat.zero_le _, rfl, rfl, rfl, HSp.out, RSt.start _ _, HSz.out⟩
   case round =>
    obtain ⟨k, rs, cvs, kv, hk, rfl, HLen, HRs, HSt, HRt, HSz2⟩ := hrel
    by_cases hlt : k < conds.length
    · have h0 := List.getElem?_eq_getElem hlt
      obtain ⟨b, off, tv, rfl, h3, h4, h5, h6, h7⟩ := (HCC.out k _ h0).kept HSt.out.grown
      obtain ⟨pt, ct, rfl, htl, htc⟩ := h5
      have HT : Hid (TermsAt wr (.slice pt (conds[k]).2.length ct) (conds[k]).2) := ⟨pt, ct, rfl, htl, htc⟩
      have HIn := uH (HGd.out _ (List.getElem_mem hlt))
      have HRk := uH (show (rowsOf (sides, conds)).take (k + 1) = (rowsOf (sides, conds)).take k ++ [((conds[k]).1, coefsOf sides (conds[k]).2)] by
       unfold rowsOf
       rw [List.take_succ_eq_append_getElem (by simpa using hlt)]
       simp)
      have a1 := HSt.out.a1
      have b0 := HSt.out.b0
      generalize hc : (conds[k]).1 = c at *
      generalize hts : (conds[k]).2 = ts at *
      have HCf := uH (coefs_length sides ts)
      have a1a := (gA wr (.cells #[.int .i64 c, .slice pt ts.length ct] 35) none).cell a1 (by simp)
      have b0a := (gA wr (.cells #[.int .i64 c, .slice pt ts.length ct] 35) none).cell b0 (by simp)
      have hwA := HSz2.out
      clear h0 htc hc hts
      go_wp2
      go_region_law (first
       | (go_simp; go_at_call 56; go_must (refine (rowOf_any c ts sides (.slice pt ts.length ct) (.slice p sides.length cap) _ (HT.out.kept (grown_ad _ _ _)) (HSd.out.kept (gT HSt.out.grown (grown_ad _ _ _))) HIn.out (by omega)).mono ?_; rintro e w2 ⟨Cb, rfl, hC, hcb, hg2⟩; have HG2 := uH (gT (grown_ad _ _ _) hg2); have c2 := HG2.out.cell a1 (by simp); have c2a := (gA w2 (.cells #[.int .i64 c, .slice (some ⟨Cb, 0, none⟩) sides.length sides.length] 86) none).cell c2 (by simp); have HCb := uH hcb; have HC := uH (show wr.heap.size ≤ Cb by simp at hC; omega); have hsz2 := HG2.out.size; clear hC hcb hg2))
       | (refine step_append_lies _ (by rfl) _ _ 79 (by rfl) (A + 1) 86 j0 (.agg #[.int .i64 0, .slice none 0 0]) 2 32 Tryz.underlying79 hj0 hy0 hy1 hy2 (by rfl) (by decide) kv rs.length ((rs.zip cvs).flatMap rowCells) (by rfl) (World.ownsRow.alloc (owns_kept HRt.out.row HG2.out) _) ⟨w2.heap.size, 0, none⟩ 1 1 (rowCells ((c, coefsOf sides ts), .slice (some ⟨Cb, 0, none⟩) sides.length sides.length)) (by rfl) (by rfl) news_at (by simp [rowCells, Value.oneCell']) (by decide) (by have := HLen.out; unfold maxLen; omega) (by have := HLen.out; omega) (by simp; omega) (w2.heap.size + 1) (by simp) ?_; intro g ncap w3 hown3 hgrow3 hat _; have HS3 := uH (((HSt.out.kept HG2.out).kept (gA _ _ none)).own hgrow3 (fun k hk => by have := (HRt.out.row.lt _ hk).1; omega)); have c3 := HS3.out.a1; have f3 := HS3.out.af 1; have O3 := uH hown3; have A3 := uH hat; have G3 := uH hgrow3; clear hown3 hgrow3 hat))
      all_goals
       go_wp2
       go_roundw
       case rel =>
        have hrs := HRs.out
        have hlen := HLen.out
        refine ⟨k + 1, rs ++ [(c, coefsOf sides ts)], cvs ++ [.slice (some ⟨Cb, 0, none⟩) sides.length sides.length], .slice (some ⟨g, 0, none⟩) (rs.length + 1) ncap, by omega, by go_num, ?_, ?_, HS3.out.set _, ?_, ?_⟩
        · show _ = _
          simp [hlen]
        · show _ = _
          rw [HRk.out, hrs]
        · have hcf := HCf.out
          have h := HRt.out.push (w1 := w2) (r := (c, coefsOf sides ts)) HSz2.out HG2.out HC.out HCb.out G3.out (by rw [hcf]; exact O3.out) (by rcases A3.out with h | h; exact .inl h; exact .inr (by omega))
          rw [hcf] at h
          exact h.kept (gS _ A 1 _) (fun k hk => by cases hk; omega)
        · show _ ≤ _
          have h1 := G3.out.size
          have h2 := HG2.out.size
          simp [World.setCell] at h1 ⊢
          omega
       case measure => simp [intOf]; omega
    · obtain rfl : k = conds.length := by omega
      obtain ⟨pk, kcap, rfl⟩ := own_form HRt.out.row
      have a0 := HSt.out.a0
      have a1 := HSt.out.a1
      have r0 := HSt.out.r0
      have r1 := HSt.out.r1
      have rf := HSt.out.rf
      go_wp2
      obtain ⟨C1, C2, C3⟩ := res_done HSt.out.res HSt.out.grown (.slice p sides.length cap) (.slice pk rs.length kcap)
      have hne := HE.out
      refine bodyPost_ret (results_space rfl _ _ (w.heap.size + 1) _ _ _ _ rfl C3) rfl ⟨C1, fun h => absurd hne h, fun _ => ⟨_, rfl, ?_⟩⟩
      have hrs := HRs.out
      rw [List.take_of_length_le (by simp [rowsOf])] at hrs
      have hn := HSt.out.newA
      have hk2 := HRt.out.kept C2 (fun k hk => by cases hk; omega)
      have h3 := hk2.rows (by rw [hrs]; simp [rowsOf]; omega) (n := sides.length) (by omega) (by rw [hrs]; exact rows_good hne)
      rw [← hrs]
      exact h3
 · have hE0 : (setErr (sides, conds) != 0) = true := by simp [hE]
   go_enter Tryz.func49, Tryz.ntmps49
   go_wp2_with (first | (go_at_call 95; refine (checkSet_any (sides, conds) _ _ _ (HS.out.kept (gT (gA _ _ _) (gA _ _ _)))).mono ?_; rintro e w1 ⟨rfl, hg1⟩; have HB := uH (boxes_of hg1); have r0 : w1.cell? ⟨w.heap.size + 1, 0, none⟩ = some (.slice none 0 0) := (by simp [World.cell?, HB.out.2.2.2]); have r1 : w1.cell? ⟨w.heap.size + 1, 1, none⟩ = some (.slice none 0 0) := (by simp [World.cell?, HB.out.2.2.2]); have rf : ∀ k, w1.frozen? ⟨w.heap.size + 1, k, none⟩ = false := (fun k => by simp [World.frozen?, HB.out.2.2.2]); clear hg1))
   obtain ⟨B1, B2, B3, B4⟩ := HB.out
   obtain ⟨C1, _, C3⟩ := res_done B4 B1 (.slice none 0 0) (.slice none 0 0)
   exact bodyPost_ret (results_space rfl _ _ (w.heap.size + 1) _ _ _ _ rfl C3) rfl ⟨C1, fun _ => rfl, fun h => absurd h hE⟩
end Go.Proofs.YtgeklmigfhhpfaaGreatDoor
namespace Go.Proofs.YtgeklmigfhhpfaaGreatDoor
open Go.RowKit
attribute [local go_sem ↓] Go.wp_at_zero Go.wp_at_succ
theorem append_one_b {P : Program} {ops : Array Oper} {rest : List Oper} {o : Oper} {a : Act} {Q : Exit → Act → World → Prop} {w : World} (hgd : o.guard = none) (s x : Operand) (t : TypeId)
  (ho : o.op = .call { callee := .builtin .append, args := #[s, x], argTypes := #[t, t] })
  (base : Nat) (e : TypeId) (i : TypeInfo) (z : Value) (size bytes : Nat) (ht : P.underlying t = some (.slice e)) (hi : P.info? e = some i) (hz : i.zero = some z)
  (hsize : i.size = size) (hby : i.bytes = bytes) (hzs : z.cells.size = size) (hsz : 0 < size) (hbb : bytes ≤ 1000)
  (v : Value) (n : Nat) (xs news : List Value) (hs : a.eval s = v) (hown : w.ownsRow base e size v n xs) (b : Nat) (hb : w.heap.size = b)
  (hx : a.eval x = .slice (some ⟨b, 0, none⟩) 1 1) (hl : news.length = size) (h1 : ∀ u ∈ news, u.oneCell' = true)
  (hn : n ≤ 1000000) (hbase : base ≤ w.heap.size)
  (h : ∀ v' w', w'.ownsRow base e size v' (n + 1) (xs ++ news) → w.grownBy w' v.ownBlock → (∀ k, v.ownBlock = some k → base ≤ k) → wpList P ops Q rest (a.put o.dst v') w') :
  wpList P ops Q (o :: rest) a (w.alloc (.cells news.toArray e)) := by
 subst hb
 exact append_one_at hgd s x t ho base e i z size bytes ht hi hz hsize hby hzs hsz hbb v n xs news hs hown hx hl h1 hn hbase h
set_option maxRecDepth 100000 in
set_option maxHeartbeats 2000000 in
theorem formOver_any (l : List SideD) (c : Int) (ts : List (ByteArray × Int)) (sv cv tv : Value) (w : World) (hS : SidesAt w sv l) (ht : TermsAt w tv ts) :
  Calls Tryz.prog 25 #[.agg #[sv, cv], .agg #[.int .i64 c, tv]] w (Gives (.int .i64 (aroundErr (namesOf l) (c, ts))) w) := by
 obtain ⟨p, cap, rfl, ⟨hl, _⟩, hc⟩ := hS
 obtain ⟨pt, tcap, rfl, htl, htc⟩ := id ht
 have H := uH hc
 have HT := uH ht
 clear hc ht htc
 obtain ⟨i0, hi, hz0, hz1, hz2⟩ := info_parts Tryz.infoStr
 have hgs : w.grownBy ((w.alloc (.cells #[.slice p l.length cap, cv] 29)).alloc (.cells #[.int .i64 c, .slice pt ts.length tcap] 35)) none := gT (gA _ _ _) (gA _ _ _)
 have HG0 := uH hgs
 have hb0 : ((w.alloc (.cells #[.slice p l.length cap, cv] 29)).alloc (.cells #[.int .i64 c, .slice pt ts.length tcap] 35)).heap[w.heap.size + 1]? = some (.cells #[.int .i64 c, .slice pt ts.length tcap] 35 (0, 0)) := by
  show ((w.heap.push _).push _)[w.heap.size + 1]? = _
  simp only [Array.getElem?_push, Array.size_push]
  rw [if_pos trivial]
 have HB0 := uH hb0
 have hsz : ((w.alloc (.cells #[.slice p l.length cap, cv] 29)).alloc (.cells #[.int .i64 c, .slice pt ts.length tcap] 35)).heap.size = w.heap.size + 2 := by simp
 have HSz := uH hsz
 clear hgs hb0 hsz
 go_enter Tryz.func25, Tryz.ntmps25
 go_wp2
 go_loopw [5, 11] (fun nv i wr => ∃ k : Nat, k ≤ l.length ∧ i = .int .i64 k ∧ Hid (((w.alloc (.cells #[.slice p l.length cap, cv] 29)).alloc (.cells #[.int .i64 c, .slice pt ts.length tcap] 35)).grownBy wr none) ∧
   Hid (wr.ownsRow (w.heap.size + 2) 9 1 nv (namesOf (l.take k)).length ((namesOf (l.take k)).map Value.string))) (fun _ i _ => l.length - (intOf i).toNat)
 case atStart => exact ⟨0, Nat.zero_le _, rfl, gR _ _, World.ownsRow_nil _ _ _ _⟩
 case round =>
  obtain ⟨k, hk, rfl, HG, HO⟩ := hrel
  have HGw := uH (gT HG0.out HG.out)
  by_cases hlt : k < l.length
  · have h0 := List.getElem?_eq_getElem hlt
    obtain ⟨b, off, rfl, h3, ⟨h4, h4'⟩, ⟨h5, h5'⟩, h6, h7, h8⟩ := (H.out k _ h0).kept HGw.out
    have HL := uH (namesOf_take h0)
    have hnl := uH (namesOf_len l k hk)
    have hsz := HG.out.size
    rw [HSz.out] at hsz
    generalize hn : (l[k]).1 = n at *
    generalize hlo : (l[k]).2.1 = lo at *
    generalize hhi : (l[k]).2.2 = hi' at *
    clear h0 hn hlo hhi
    go_wp2_with (first | (at_builtin; go_must (refine append_one_b rfl _ _ 54 rfl (w.heap.size + 2) 9 i0 (.string ByteArray.empty) 1 16 Tryz.underlying54 hi hz0 hz1 hz2 rfl (by decide) (by decide) _ _ _ [.string n] rfl (owns_kept HO.out (gA _ _ _)) (wr.heap.size + 1) (by simp) rfl rfl (by simp [Value.oneCell']) (by rw [hnl.out]; omega) (by simp; omega) ?_; intro v' w1 hown' hgrow' hlo2; have HO' := uH hown'; have HG' := uH hgrow'; have HLo := uH hlo2; clear hown' hgrow' hlo2)))
    go_roundw
    case rel => exact ⟨k + 1, by omega, by go_num, gO (gT HG.out (gA _ _ _)) HG'.out (fun i hi => by rw [HSz.out]; exact HLo.out i hi), by show World.ownsRow _ _ _ _ _ _ _; rw [HL.out]; simpa using HO'.out⟩
    case measure => simp [intOf]; omega
  · obtain rfl : k = l.length := by omega
    have hb := kH HB0.out HG.out (by simp)
    have hbox0 : wr.cell? ⟨w.heap.size + 1, 0, none⟩ = some (.int .i64 c) := by simp [World.cell?, hb]
    have hbox1 : wr.cell? ⟨w.heap.size + 1, 1, none⟩ = some (.slice pt ts.length tcap) := by simp [World.cell?, hb]
    have HN := uH (strs_of_owns (zs := namesOf l) (by have := HO.out; rwa [List.take_length] at this) (by simp [namesOf]; unfold maxLen; omega))
    obtain ⟨pn, ncap, hnv⟩ := own_form HO.out
    have HNv := uH hnv
    clear hb HO hnv
    go_wp2_with (first | (go_at_call 42; go_must (refine (around_any c ts (namesOf l) _ _ _ (HT.out.kept HGw.out) HN.out).mono ?_; rintro e w2 ⟨rfl, hg2⟩; have G2 := uH hg2; clear hg2)))
    go_ret
    exact ⟨rfl, gT HGw.out G2.out⟩
end Go.Proofs.YtgeklmigfhhpfaaGreatDoor
