/-
 spaceOf, and that what it makes stays.
 spaceAndRow: a checked set and a form of its variables.
-/
import Derived.Test.YtfilcaolgfghcaaGreatSpace
import Derived.Test.YtfilcaolgfghcaaGreatRow
import Derived.Test.YtfilcaolgfghcaaGreatCheck
import Derived.Deep.RegionLaw
import Derived.Deep.DeepMust
namespace Go.Proofs.YtfilcaolgfghcaaGreat
open Go.RowKit
attribute [local go_sem ↓] Go.wp_at_zero Go.wp_at_succ

/-- What spaceOf gives: rows in memory of its own. -/
def SpacePost2 (S : List SideD × List CondD) (sv : Value) (w : World) (e : Ending) (w' : World) : Prop :=
  w.grownBy w' none ∧ (setErr S ≠ 0 → e = .returned (.tuple #[.agg #[.slice none 0 0, .slice none 0 0], .int .i64 (setErr S)])) ∧
    (setErr S = 0 → ∃ kv, e = .returned (.tuple #[.agg #[sv, kv], .int .i64 0]) ∧ RowLAt w' kv (rowsOf S) ∧
      ∀ w2 w3 r1 r2, w'.grownBy w2 (some r1) → w2.grownBy w3 (some r2) → r1 < w.heap.size → r2 < w.heap.size → RowLAt w3 kv (rowsOf S))

set_option maxRecDepth 100000 in
set_option maxHeartbeats 4000000 in
theorem spaceOf2_any (S : List SideD × List CondD) (sv cv : Value) (w : World) (hS : SetAt w sv cv S) :
    Calls Tryz.prog 40 #[.agg #[sv, cv]] w (SpacePost2 S sv w) := by
  obtain ⟨sides, conds⟩ := S
  obtain ⟨⟨p, cap, hsv, hl, hc⟩, ⟨pc, ccap, hcv, hcl, hcc⟩⟩ := id hS
  simp only at hsv hl hc hcv hcl hcc
  subst hsv hcv
  have HS := Lib.hid hS
  have HCC := Lib.hid hcc
  have HSd : Hid (SidesAt w (.slice p sides.length cap) sides) := ⟨p, cap, rfl, hl, hc⟩
  clear hS hcc hc
  by_cases hE : setErr (sides, conds) = 0
  · have hE0 : (setErr (sides, conds) != 0) = false := by simp [hE]
    have HE := Lib.hid hE
    obtain ⟨g1, g2, g3, g4⟩ := set_good hE
    clear g2
    have HG4 := Lib.hid g4
    have HGd := Lib.hid (fun f hf => (conds_good g4 f hf).2)
    simp only at g1 g3
    clear hE g4
    go_enter Tryz.func40, Tryz.ntmps40
    go_wp2_with (first | (go_at_call 75; refine (checkSet_any (sides, conds) _ _ _ (HS.out.kept (grownBy_trans (World.grownBy_alloc _ _ _) (World.grownBy_alloc _ _ _)))).mono ?_; rintro e w1 ⟨rfl, hg1⟩; have HB := Lib.hid (boxes_of hg1); rw [HE.out]; have HSp := Lib.hid HB.out.spc; have bx0 : w1.cell? ⟨w.heap.size, 0, none⟩ = some (.slice p sides.length cap) := (by simp [World.cell?, HB.out.2.2.1]); have bx1 := HSp.out.b1; clear hg1))
    obtain ⟨j0, hj0, hy0, hy1, hy2⟩ := info_parts Tryz.infoRow
    have HSz := Lib.hid (show w1.heap.size + 1 ≤ (w1.alloc (.cells #[.slice p sides.length cap, .slice none 0 0] 77)).heap.size by simp)
    generalize hA : w1.heap.size = A at *
    go_loopw [20] (fun i wr => ∃ (k : Nat) (rs : List RowD) (cvs : List Value) (kv : Value), k ≤ conds.length ∧ i = .int .i64 k ∧ Hid (rs.length = k) ∧ Hid (rs = (rowsOf (sides, conds)).take k) ∧ Hid (SpSt w wr A (.slice p sides.length cap) (.slice pc conds.length ccap) kv) ∧ Hid (RSt wr (A + 1) kv rs cvs) ∧ Hid (A + 1 ≤ wr.heap.size)) (fun i _ => conds.length - (intOf i).toNat)
    case atStart => exact ⟨0, [], [], _, Nat.zero_le _, rfl, rfl, rfl, HSp.out, RSt.start _ _, HSz.out⟩
    case round =>
      obtain ⟨k, rs, cvs, kv, hk, rfl, HLen, HRs, HSt, HRt, HSz2⟩ := hrel
      by_cases hlt : k < conds.length
      · have h0 := List.getElem?_eq_getElem hlt
        obtain ⟨b, off, tv, rfl, h3, h4, h5, h6, h7⟩ := (HCC.out k _ h0).kept HSt.out.grown
        obtain ⟨pt, ct, rfl, htl, htc⟩ := h5
        have HT : Hid (TermsAt wr (.slice pt (conds[k]).2.length ct) (conds[k]).2) := ⟨pt, ct, rfl, htl, htc⟩
        have HIn := Lib.hid (HGd.out _ (List.getElem_mem hlt))
        have HRk := Lib.hid (show (rowsOf (sides, conds)).take (k + 1) = (rowsOf (sides, conds)).take k ++ [((conds[k]).1, coefsOf sides (conds[k]).2)] by
          unfold rowsOf
          rw [List.take_succ_eq_append_getElem (by simpa using hlt)]
          simp)
        have a1 := HSt.out.a1
        have b0 := HSt.out.b0
        generalize hc : (conds[k]).1 = c at *
        generalize hts : (conds[k]).2 = ts at *
        have HCf := Lib.hid (coefs_length sides ts)
        have a1a := (World.grownBy_alloc wr (.cells #[.int .i64 c, .slice pt ts.length ct] 33) none).cell a1 (by simp)
        have b0a := (World.grownBy_alloc wr (.cells #[.int .i64 c, .slice pt ts.length ct] 33) none).cell b0 (by simp)
        have hwA := HSz2.out
        clear h0 htc hc hts
        go_wp2
        go_region_law (first
          | (go_simp; go_at_call 42; go_must (refine (rowOf_any c ts sides (.slice pt ts.length ct) (.slice p sides.length cap) _ (HT.out.kept (grown_ad _ _ _)) (HSd.out.kept (grownBy_trans HSt.out.grown (grown_ad _ _ _))) HIn.out (by omega)).mono ?_; rintro e w2 ⟨Cb, rfl, hC, hcb, hg2⟩; have HG2 := Lib.hid (grownBy_trans (grown_ad _ _ _) hg2); have c2 := HG2.out.cell a1 (by simp); have c2a := (World.grownBy_alloc w2 (.cells #[.int .i64 c, .slice (some ⟨Cb, 0, none⟩) sides.length sides.length] 79) none).cell c2 (by simp); have HCb := Lib.hid hcb; have HC := Lib.hid (show wr.heap.size ≤ Cb by simp at hC; omega); have hsz2 := HG2.out.size; clear hC hcb hg2))
          | (refine step_append_lies _ (by rfl) _ _ 75 (by rfl) (A + 1) 79 j0 (.agg #[.int .i64 0, .slice none 0 0]) 2 32 Tryz.underlying75 hj0 hy0 hy1 hy2 (by rfl) (by decide) kv rs.length ((rs.zip cvs).flatMap rowCells) (by rfl) (World.ownsRow.alloc (owns_kept HRt.out.row HG2.out) _) ⟨w2.heap.size, 0, none⟩ 1 1 (rowCells ((c, coefsOf sides ts), .slice (some ⟨Cb, 0, none⟩) sides.length sides.length)) (by rfl) (by rfl) news_at (by simp [rowCells, Value.oneCell']) (by decide) (by have := HLen.out; unfold maxLen; omega) (by have := HLen.out; omega) (by simp; omega) (w2.heap.size + 1) (by simp) ?_; intro g ncap w3 hown3 hgrow3 hat _; have HS3 := Lib.hid (((HSt.out.kept HG2.out).kept (World.grownBy_alloc _ _ none)).own hgrow3 (fun k hk => by have := (HRt.out.row.lt _ hk).1; omega)); have c3 := HS3.out.a1; have f3 := HS3.out.af 1; have O3 := Lib.hid hown3; have A3 := Lib.hid hat; have G3 := Lib.hid hgrow3; clear hown3 hgrow3 hat))
        all_goals
          go_wp2
          go_roundw
          case rel =>
            have hrs := HRs.out
            have hlen := HLen.out
            refine ⟨k + 1, rs ++ [(c, coefsOf sides ts)], cvs ++ [.slice (some ⟨Cb, 0, none⟩) sides.length sides.length], .slice (some ⟨g, 0, none⟩) (rs.length + 1) ncap, by omega, by go_num, ?_, ?_, HS3.out.set _, ?_, ?_⟩
            · show _ = _
              simp [hlen]
            · show _ = _
              rw [HRk.out, hrs]
            · have hcf := HCf.out
              have h := HRt.out.push (w1 := w2) (r := (c, coefsOf sides ts)) HSz2.out HG2.out HC.out HCb.out G3.out (by rw [hcf]; exact O3.out) (by rcases A3.out with h | h; exact .inl h; exact .inr (by omega))
              rw [hcf] at h
              exact h.kept (grown_set _ A 1 _) (fun k hk => by cases hk; omega)
            · show _ ≤ _
              have h1 := G3.out.size
              have h2 := HG2.out.size
              simp [World.setCell] at h1 ⊢
              omega
          case measure => simp [intOf]; omega
      · obtain rfl : k = conds.length := by omega
        obtain ⟨pk, kcap, rfl⟩ := own_form HRt.out.row
        have a0 := HSt.out.a0
        have a1 := HSt.out.a1
        have r0 := HSt.out.r0
        have r1 := HSt.out.r1
        have rf := HSt.out.rf
        go_wp2
        obtain ⟨C1, C2, C3⟩ := res_done HSt.out.res HSt.out.grown (.slice p sides.length cap) (.slice pk rs.length kcap)
        have hne := HE.out
        refine bodyPost_ret (results_space rfl _ _ (w.heap.size + 1) _ _ _ _ rfl C3) rfl ⟨C1, fun h => absurd hne h, fun _ => ⟨_, rfl, ?_, fun w2 w3 r1 r2 g1 g2 l1 l2 => ?_⟩⟩
        rotate_left
        · have hrs := HRs.out
          rw [List.take_of_length_le (by simp [rowsOf])] at hrs
          have hn := HSt.out.newA
          have hk2 := ((HRt.out.kept C2 (fun k hk => by cases hk; omega)).kept g1 (fun k hk => by cases hk; omega)).kept g2 (fun k hk => by cases hk; omega)
          have h3 := hk2.rows (by rw [hrs]; simp [rowsOf]; omega) (n := sides.length) (by omega) (by rw [hrs]; exact rows_good hne)
          rw [← hrs]
          exact h3
        have hrs := HRs.out
        rw [List.take_of_length_le (by simp [rowsOf])] at hrs
        have hn := HSt.out.newA
        have hk2 := HRt.out.kept C2 (fun k hk => by cases hk; omega)
        have h3 := hk2.rows (by rw [hrs]; simp [rowsOf]; omega) (n := sides.length) (by omega) (by rw [hrs]; exact rows_good hne)
        rw [← hrs]
        exact h3
  · have hE0 : (setErr (sides, conds) != 0) = true := by simp [hE]
    go_enter Tryz.func40, Tryz.ntmps40
    go_wp2_with (first | (go_at_call 75; refine (checkSet_any (sides, conds) _ _ _ (HS.out.kept (grownBy_trans (World.grownBy_alloc _ _ _) (World.grownBy_alloc _ _ _)))).mono ?_; rintro e w1 ⟨rfl, hg1⟩; have HB := Lib.hid (boxes_of hg1); have r0 : w1.cell? ⟨w.heap.size + 1, 0, none⟩ = some (.slice none 0 0) := (by simp [World.cell?, HB.out.2.2.2]); have r1 : w1.cell? ⟨w.heap.size + 1, 1, none⟩ = some (.slice none 0 0) := (by simp [World.cell?, HB.out.2.2.2]); have rf : ∀ k, w1.frozen? ⟨w.heap.size + 1, k, none⟩ = false := (fun k => by simp [World.frozen?, HB.out.2.2.2]); clear hg1))
    obtain ⟨B1, B2, B3, B4⟩ := HB.out
    obtain ⟨C1, _, C3⟩ := res_done B4 B1 (.slice none 0 0) (.slice none 0 0)
    exact bodyPost_ret (results_space rfl _ _ (w.heap.size + 1) _ _ _ _ rfl C3) rfl ⟨C1, fun _ => rfl, fun h => absurd h hE⟩

end Go.Proofs.YtfilcaolgfghcaaGreat

namespace Go.Proofs.YtfilcaolgfghcaaGreat
open Go.RowKit
attribute [local go_sem ↓] Go.wp_at_zero Go.wp_at_succ

theorem results_two {fn : Func} {p q u : Tmp} (h : fn.results = #[.cell p 77, .cell q 79, .tmp u]) (tmps : Array Value) (w : World) (gs gr : Nat) (t1 t2 : TypeId) (a b c d : Value) (f1 f2 : Nat × Nat)
    (hp : tmps.getD p undef = .pointer (some ⟨gs, 0, none⟩)) (hq : tmps.getD q undef = .pointer (some ⟨gr, 0, none⟩)) (hs : w.heap[gs]? = some (.cells #[a, b] t1 f1)) (hr : w.heap[gr]? = some (.cells #[c, d] t2 f2)) :
    (results fn tmps).run Tryz.prog w = .ok (.tuple #[.agg #[a, b], .agg #[c, d], tmps.getD u undef]) w := by
  have l1 := run_loadVar_row (P := Tryz.prog) w gs t1 77 #[a, b] f1 _ hs Tryz.underlying77 rfl Tryz.infoSpace2
  have l2 := run_loadVar_row (P := Tryz.prog) w gr t2 79 #[c, d] f2 _ hr Tryz.underlying79 rfl Tryz.infoRow2
  have hp' : tmps[p]?.getD undef = .pointer (some ⟨gs, 0, none⟩) := by simpa using hp
  have hq' : tmps[q]?.getD undef = .pointer (some ⟨gr, 0, none⟩) := by simpa using hq
  simp only [results, h]
  simp [Sem.run_bind, hp', hq', asAddr, l1, l2, Result.andThen]

theorem four_boxes (w : World) (a b c d : Obj) : ((((w.alloc a).alloc b).alloc c).alloc d).heap[w.heap.size]? = some a ∧ ((((w.alloc a).alloc b).alloc c).alloc d).heap[w.heap.size + 1]? = some b ∧ ((((w.alloc a).alloc b).alloc c).alloc d).heap[w.heap.size + 2]? = some c ∧ ((((w.alloc a).alloc b).alloc c).alloc d).heap[w.heap.size + 3]? = some d ∧
    w.grownBy ((((w.alloc a).alloc b).alloc c).alloc d) none := by
  have hh : ((((w.alloc a).alloc b).alloc c).alloc d).heap = (((w.heap.push a).push b).push c).push d := rfl
  rw [hh]
  refine ⟨?_, ?_, ?_, ?_, grownBy_trans (grownBy_trans (grownBy_trans (World.grownBy_alloc _ _ _) (World.grownBy_alloc _ _ _)) (World.grownBy_alloc _ _ _)) (World.grownBy_alloc _ _ _)⟩ <;>
  · simp only [Array.getElem?_push, Array.size_push]
    repeat (first | rw [if_pos (by omega)] | rw [if_neg (by omega)])
    try simp only [if_true]

/-- The four boxes of spaceAndRow. -/
structure SrSt (w0 w : World) (sv cv tv : Value) (c : Int) : Prop where
  grown : w0.grownBy w none
  s : w.heap[w0.heap.size]? = some (.cells #[sv, cv] 29 (0, 0))
  f : w.heap[w0.heap.size + 1]? = some (.cells #[.int .i64 c, tv] 33 (0, 0))
  a : w.heap[w0.heap.size + 2]? = some (.cells #[.slice none 0 0, .slice none 0 0] 77 (0, 0))
  r : w.heap[w0.heap.size + 3]? = some (.cells #[.int .i64 0, .slice none 0 0] 79 (0, 0))
theorem SrSt.kept {w0 w w' : World} {sv cv tv : Value} {c : Int} (h : SrSt w0 w sv cv tv c) (hg : w.grownBy w' none) : SrSt w0 w' sv cv tv c :=
  ⟨grownBy_trans h.grown hg, heap_keep h.s hg (by simp), heap_keep h.f hg (by simp), heap_keep h.a hg (by simp), heap_keep h.r hg (by simp)⟩
theorem cell_of_two {w : World} {g : Nat} {a b : Value} {T : TypeId} (h : w.heap[g]? = some (.cells #[a, b] T (0, 0))) : w.cell? ⟨g, 0, none⟩ = some a ∧ w.cell? ⟨g, 1, none⟩ = some b ∧ ∀ k, w.frozen? ⟨g, k, none⟩ = false :=
  ⟨by unfold World.cell?; rw [h]; rfl, by unfold World.cell?; rw [h]; rfl, fun k => by simp [World.frozen?, h]⟩

theorem two_set {w : World} {R : Nat} {x y : Value} {T : TypeId} (hr : w.heap[R]? = some (.cells #[x, y] T (0, 0))) (a b : Value) :
    ((w.setCell ⟨R, 0, none⟩ a).setCell ⟨R, 1, none⟩ b).heap[R]? = some (.cells #[a, b] T (0, 0)) ∧ w.grownBy ((w.setCell ⟨R, 0, none⟩ a).setCell ⟨R, 1, none⟩ b) (some R) :=
  ⟨by simp [World.setCell, Array.getElem?_modify, hr], grownBy_trans (grown_set _ _ _ _) (grown_set _ _ _ _)⟩

/-- The results are written. -/
theorem SrSt.done {w0 w : World} {sv cv tv : Value} {c : Int} (h : SrSt w0 w sv cv tv c) (a b x y : Value) :
    ((((w.setCell ⟨w0.heap.size + 2, 0, none⟩ a).setCell ⟨w0.heap.size + 2, 1, none⟩ b).setCell ⟨w0.heap.size + 3, 0, none⟩ x).setCell ⟨w0.heap.size + 3, 1, none⟩ y).heap[w0.heap.size + 2]? = some (.cells #[a, b] 77 (0, 0)) ∧
    ((((w.setCell ⟨w0.heap.size + 2, 0, none⟩ a).setCell ⟨w0.heap.size + 2, 1, none⟩ b).setCell ⟨w0.heap.size + 3, 0, none⟩ x).setCell ⟨w0.heap.size + 3, 1, none⟩ y).heap[w0.heap.size + 3]? = some (.cells #[x, y] 79 (0, 0)) ∧
    w0.grownBy ((((w.setCell ⟨w0.heap.size + 2, 0, none⟩ a).setCell ⟨w0.heap.size + 2, 1, none⟩ b).setCell ⟨w0.heap.size + 3, 0, none⟩ x).setCell ⟨w0.heap.size + 3, 1, none⟩ y) none ∧
    ∀ g o, w.heap[g]? = some o → g ≠ w0.heap.size + 2 → g ≠ w0.heap.size + 3 → ((((w.setCell ⟨w0.heap.size + 2, 0, none⟩ a).setCell ⟨w0.heap.size + 2, 1, none⟩ b).setCell ⟨w0.heap.size + 3, 0, none⟩ x).setCell ⟨w0.heap.size + 3, 1, none⟩ y).heap[g]? = some o := by
  obtain ⟨p1, p2⟩ := two_set h.a a b
  obtain ⟨q1, q2⟩ := two_set (heap_keep h.r p2 (by simp)) x y
  exact ⟨heap_keep p1 q2 (by simp), q1, grown_own (grown_own h.grown p2 (fun k hk => by cases hk; omega)) q2 (fun k hk => by cases hk; omega),
    fun g o hg h1 h2 => heap_keep (heap_keep hg p2 (by simp; omega)) q2 (by simp; omega)⟩

/-- What spaceAndRow gives. -/
def SpaceRowPost (S : List SideD × List CondD) (f : CondD) (sv : Value) (w : World) (e : Ending) (w' : World) : Prop :=
  w.grownBy w' none ∧ (setErr S ≠ 0 → e = .returned (.tuple #[.agg #[.slice none 0 0, .slice none 0 0], .agg #[.int .i64 0, .slice none 0 0], .int .i64 (setErr S)])) ∧
    (setErr S = 0 → aroundErr (namesOf S.1) f ≠ 0 → e = .returned (.tuple #[.agg #[.slice none 0 0, .slice none 0 0], .agg #[.int .i64 0, .slice none 0 0], .int .i64 (aroundErr (namesOf S.1) f)])) ∧
    (setErr S = 0 → aroundErr (namesOf S.1) f = 0 → ∃ kv Cb, e = .returned (.tuple #[.agg #[sv, kv], .agg #[.int .i64 f.1, .slice (some ⟨Cb, 0, none⟩) S.1.length S.1.length], .int .i64 0]) ∧ RowLAt w' kv (rowsOf S) ∧ w'.heap[Cb]? = some (.cells ((coefsOf S.1 f.2).map (Value.int .i64)).toArray 3 (0, 0)))

theorem around_good {names : List ByteArray} {c : Int} {ts : List (ByteArray × Int)} (h : aroundErr names (c, ts) = 0) : formErr c ts = 0 ∧ termsIn names ts = true := by
  unfold aroundErr at h
  simp only at h
  by_cases h1 : formErr c ts = 0
  · rw [h1] at h
    simp at h
    exact ⟨h1, h⟩
  · simp [h1] at h

set_option maxRecDepth 100000 in
set_option maxHeartbeats 4000000 in
theorem spaceAndRow_any (S : List SideD × List CondD) (c : Int) (ts : List (ByteArray × Int)) (sv cv tv : Value) (w : World) (hS : SetAt w sv cv S) (ht : TermsAt w tv ts) :
    Calls Tryz.prog 35 #[.agg #[sv, cv], .agg #[.int .i64 c, tv]] w (SpaceRowPost S (c, ts) sv w) := by
  obtain ⟨⟨p, cap, rfl, ⟨hl, hlc⟩, _⟩, ⟨pc, ccap, rfl, hcl, _⟩⟩ := id hS
  obtain ⟨pt, tcap, rfl, htl, _⟩ := id ht
  have HS := Lib.hid hS
  have HT := Lib.hid ht
  clear hS ht
  obtain ⟨e1, e2, e3, e4, e5⟩ := four_boxes w (.cells #[.slice p S.1.length cap, .slice pc S.2.length ccap] 29) (.cells #[.int .i64 c, .slice pt ts.length tcap] 33) (.cells #[.slice none 0 0, .slice none 0 0] 77) (.cells #[.int .i64 0, .slice none 0 0] 79)
  have HB := Lib.hid (SrSt.mk (w0 := w) (sv := .slice p S.1.length cap) (cv := .slice pc S.2.length ccap) (tv := .slice pt ts.length tcap) (c := c) e5 e1 e2 e3 e4)
  have HSz := Lib.hid (show (((( w.alloc (.cells #[.slice p S.1.length cap, .slice pc S.2.length ccap] 29)).alloc (.cells #[.int .i64 c, .slice pt ts.length tcap] 33)).alloc (.cells #[.slice none 0 0, .slice none 0 0] 77)).alloc (.cells #[.int .i64 0, .slice none 0 0] 79)).heap.size = w.heap.size + 4 by simp)
  have b0 := (cell_of_two HB.out.s).1
  have b1 := (cell_of_two HB.out.s).2.1
  clear e1 e2 e3 e4 e5
  by_cases hE : setErr S = 0
  case neg =>
    have hE0 : (setErr S != 0) = true := by simpa using hE
    have HE := Lib.hid hE
    clear hE
    go_enter Tryz.func35, Tryz.ntmps35
    go_wp2_with (first
      | (go_at_call 40; go_must (refine (spaceOf_any S _ _ _ (HS.out.kept HB.out.grown)).mono ?_; rintro e w1 ⟨hg1, hk0, _⟩; obtain rfl := hk0 HE.out; have HB1 := Lib.hid ((HB.out.kept hg1).kept (World.grownBy_alloc w1 (.cells #[.slice none 0 0, .slice none 0 0] 77) none)); have a0 := (cell_of_two HB1.out.a).1; have a1 := (cell_of_two HB1.out.a).2.1; have a2 := (cell_of_two HB1.out.a).2.2; have r0 := (cell_of_two HB1.out.r).1; have r1 := (cell_of_two HB1.out.r).2.1; have r2 := (cell_of_two HB1.out.r).2.2; clear hg1 hk0)))
    obtain ⟨d1, d2, d3, _⟩ := HB1.out.done (.slice none 0 0) (.slice none 0 0) (.int .i64 0) (.slice none 0 0)
    exact bodyPost_ret (results_two rfl _ _ (w.heap.size + 2) (w.heap.size + 3) _ _ _ _ _ _ _ _ rfl rfl d1 d2) rfl ⟨d3, fun _ => rfl, fun h => absurd h HE.out, fun h => absurd h HE.out⟩
  case pos =>
    have HE := Lib.hid hE
    have h8 := (set_good hE).1
    clear hE
    by_cases hA : aroundErr (namesOf S.1) (c, ts) = 0
    case neg =>
      have hA0 : (aroundErr (namesOf S.1) (c, ts) != 0) = true := by simpa using hA
      have HA := Lib.hid hA
      clear hA
      go_enter Tryz.func35, Tryz.ntmps35
      go_wp2_with (first
        | (go_at_call 40; go_must (refine (spaceOf_any S _ _ _ (HS.out.kept HB.out.grown)).mono ?_; rintro e w1 ⟨hg1, _, hk0⟩; obtain ⟨kv, rfl, hk1⟩ := hk0 HE.out; obtain ⟨pk, kcap, rfl, _, _⟩ := id hk1; have HB1 := Lib.hid ((HB.out.kept hg1).kept (World.grownBy_alloc w1 (.cells #[.slice p S.1.length cap, .slice pk (rowsOf S).length kcap] 77) none)); have f0 := (cell_of_two HB1.out.f).1; have f1 := (cell_of_two HB1.out.f).2.1; clear hg1 hk0 hk1))
        | (go_at_call 41; go_must (refine (affForm_any c ts S.1 _ _ _ (HT.out.kept HB1.out.grown) (HS.out.1.kept HB1.out.grown)).mono ?_; rintro e w2 ⟨rfl, hg2⟩; have HB2 := Lib.hid (HB1.out.kept hg2); have a0 := (cell_of_two HB2.out.a).1; have a1 := (cell_of_two HB2.out.a).2.1; have a2 := (cell_of_two HB2.out.a).2.2; have r0 := (cell_of_two HB2.out.r).1; have r1 := (cell_of_two HB2.out.r).2.1; have r2 := (cell_of_two HB2.out.r).2.2; clear hg2)))
      obtain ⟨d1, d2, d3, _⟩ := HB2.out.done (.slice none 0 0) (.slice none 0 0) (.int .i64 0) (.slice none 0 0)
      exact bodyPost_ret (results_two rfl _ _ (w.heap.size + 2) (w.heap.size + 3) _ _ _ _ _ _ _ _ rfl rfl d1 d2) rfl ⟨d3, fun h => absurd HE.out h, fun _ _ => rfl, fun _ h => absurd h HA.out⟩
    case pos =>
      have HA := Lib.hid hA
      have hA0 : (aroundErr (namesOf S.1) (c, ts) != 0) = false := by simp [hA]
      have HIn := Lib.hid (around_good hA).2
      clear hA
      go_enter Tryz.func35, Tryz.ntmps35
      go_wp2_with (first
        | (go_at_call 40; go_must (refine (spaceOf2_any S _ _ _ (HS.out.kept HB.out.grown)).mono ?_; rintro e w1 ⟨hg1, _, hk0⟩; obtain ⟨kv, rfl, hk1, hk2⟩ := hk0 HE.out; have HKs := Lib.hid hk2; clear hk2; obtain ⟨pk, kcap, rfl, _, _⟩ := id hk1; have HK1 := Lib.hid (hk1.kept (World.grownBy_alloc w1 (.cells #[.slice p S.1.length cap, .slice pk (rowsOf S).length kcap] 77) none)); have HN1 := Lib.hid (heap_alloc_new w1 (.cells #[.slice p S.1.length cap, .slice pk (rowsOf S).length kcap] 77)); have HB1 := Lib.hid ((HB.out.kept hg1).kept (World.grownBy_alloc w1 (.cells #[.slice p S.1.length cap, .slice pk (rowsOf S).length kcap] 77) none)); have f0 := (cell_of_two HB1.out.f).1; have f1 := (cell_of_two HB1.out.f).2.1; have hs1 := hg1.size; clear hg1 hk0 hk1))
        | (go_at_call 41; go_must (refine (affForm_any c ts S.1 _ _ _ (HT.out.kept HB1.out.grown) (HS.out.1.kept HB1.out.grown)).mono ?_; rintro e w2 ⟨rfl, hg2⟩; have HG2 := Lib.hid hg2; have HB2 := Lib.hid (HB1.out.kept hg2); have HK2 := Lib.hid (HK1.out.kept hg2); have HN2 := Lib.hid (heap_keep HN1.out hg2 (by simp)); have f0 := (cell_of_two HB2.out.f).1; have f1 := (cell_of_two HB2.out.f).2.1; have n0 := (cell_of_two HN2.out).1; have n1 := (cell_of_two HN2.out).2.1; have a0 := (cell_of_two HB2.out.a).1; have a1 := (cell_of_two HB2.out.a).2.1; have a2 := (cell_of_two HB2.out.a).2.2; have r0 := (cell_of_two HB2.out.r).1; have r1 := (cell_of_two HB2.out.r).2.1; have r2 := (cell_of_two HB2.out.r).2.2; clear hg2)))
      rw [HA.out]
      go_wp2
      go_region_law (first
        | (go_simp; go_at_call 42; go_must (refine (rowOf_any c ts S.1 _ _ _ (HT.out.kept (grownBy_trans HB2.out.grown (grown_d _ _))) (HS.out.1.kept (grownBy_trans HB2.out.grown (grown_d _ _))) HIn.out (by omega)).mono ?_; rintro e w3 ⟨Cb, rfl, hC, hcb, hg3⟩; have hg3' := grownBy_trans (grown_d w2 none) hg3; have HG3 := Lib.hid hg3'; have HB3 := Lib.hid (HB2.out.kept hg3'); have HK3 := Lib.hid (HK2.out.kept hg3'); have HN3 := Lib.hid (heap_keep HN2.out hg3' (by simp)); have HCb := Lib.hid hcb; have HC := Lib.hid (show w2.heap.size ≤ Cb from hC); have m0 := (cell_of_two HN3.out).1; have m1 := (cell_of_two HN3.out).2.1; have s0 := (cell_of_two HB3.out.a).1; have s1 := (cell_of_two HB3.out.a).2.1; have s2 := (cell_of_two HB3.out.a).2.2; have t0 := (cell_of_two HB3.out.r).1; have t1 := (cell_of_two HB3.out.r).2.1; have t2 := (cell_of_two HB3.out.r).2.2; clear hC hcb hg3 hg3')))
      all_goals
        go_wp2
        obtain ⟨p1, p2⟩ := two_set HB3.out.a (.slice p S.1.length cap) (.slice pk (rowsOf S).length kcap)
        obtain ⟨q1, q2⟩ := two_set (heap_keep HB3.out.r p2 (by simp)) (.int .i64 c) (.slice (some ⟨Cb, 0, none⟩) S.1.length S.1.length)
        have hlt := (Array.getElem?_eq_some_iff.1 HB2.out.r).1
        have hCb := HC.out
        refine bodyPost_ret (results_two rfl _ _ (w.heap.size + 2) (w.heap.size + 3) _ _ _ _ _ _ _ _ rfl rfl (heap_keep p1 q2 (by simp)) q1) rfl ⟨grown_own (grown_own HB3.out.grown p2 (fun k hk => by cases hk; omega)) q2 (fun k hk => by cases hk; omega), fun h => absurd HE.out h, fun _ h => absurd HA.out h, fun _ _ => ⟨_, Cb, rfl, ?_, ?_⟩⟩
        · exact HKs.out _ _ (w.heap.size + 2) (w.heap.size + 3) (grownBy_trans (grownBy_any _ (grownBy_trans (World.grownBy_alloc _ _ _) (grownBy_trans HG2.out HG3.out))) p2) q2 (by rw [HSz.out]; omega) (by rw [HSz.out]; omega)
        · exact heap_keep (heap_keep HCb.out p2 (by simp; omega)) q2 (by simp; omega)

end Go.Proofs.YtfilcaolgfghcaaGreat
