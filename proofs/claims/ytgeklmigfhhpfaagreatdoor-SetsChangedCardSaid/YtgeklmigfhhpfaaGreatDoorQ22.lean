/-
 Do sides have the same names. Two sets of the same variables, as spaces.
-/
import Derived.Deep.DeepMust
import Derived.Test.YtgeklmigfhhpfaaGreatDoorQ17
import Derived.Test.YtgeklmigfhhpfaaGreatDoorQ20
namespace Go.Proofs.YtgeklmigfhhpfaaGreatDoor
open Go.RowKit
attribute [local go_sem ↓] Go.wp_at_zero Go.wp_at_succ
def sameSide (a b : SideD) : Bool := a.1.toList == b.1.toList
def fitB (l m : List SideD) : Bool := decide (l.length = m.length) && (l.zip m).all fun p => sameSide p.1 p.2
theorem fit_len {l m : List SideD} (h : l.length ≠ m.length) : fitB l m = false := by simp [fitB, h]
theorem fit_miss {l m : List SideD} {k : Nat} {a b : SideD} (ha : l[k]? = some a) (hb : m[k]? = some b) (h : sameSide a b = false) : fitB l m = false := by
 have hz : (l.zip m)[k]? = some (a, b) := by rw [List.getElem?_zip_eq_some]; exact ⟨ha, hb⟩
 have h2 : ((l.zip m).all fun p => sameSide p.1 p.2) = false := by
  rw [List.all_eq_false]
  exact ⟨_, List.mem_of_getElem? hz, by simp [h]⟩
 simp [fitB, h2]
theorem fit_snoc {l m : List SideD} {k : Nat} {a b : SideD} (ha : l[k]? = some a) (hb : m[k]? = some b) (h : sameSide a b = true) (hk : (((l.zip m).take k).all fun p => sameSide p.1 p.2) = true) : (((l.zip m).take (k + 1)).all fun p => sameSide p.1 p.2) = true := by
 have hz : (l.zip m)[k]? = some (a, b) := by rw [List.getElem?_zip_eq_some]; exact ⟨ha, hb⟩
 obtain ⟨hlt, he⟩ := List.getElem?_eq_some_iff.1 hz
 rw [List.take_succ_eq_append_getElem hlt, List.all_append, hk, he]
 simp [h]
theorem fit_done {l m : List SideD} (h : l.length = m.length) (hk : (((l.zip m).take l.length).all fun p => sameSide p.1 p.2) = true) : fitB l m = true := by
 rw [List.take_of_length_le (by simp; omega)] at hk
 simp [fitB, h, hk]
theorem fitB_names {l m : List SideD} (h : fitB l m = true) : namesOf l = namesOf m := by
 unfold fitB at h
 simp only [Bool.and_eq_true, decide_eq_true_eq] at h
 obtain ⟨h1, h2⟩ := h
 refine List.ext_getElem (by simp [namesOf, h1]) fun j h3 h4 => ?_
 have hj : j < l.length := by simpa [namesOf] using h3
 have hj2 : j < m.length := by simpa [namesOf] using h4
 have h5 := List.all_eq_true.1 h2 (l[j], m[j]) (List.mem_of_getElem? (i := j) (by rw [List.getElem?_zip_eq_some]; exact ⟨List.getElem?_eq_getElem hj, List.getElem?_eq_getElem hj2⟩))
 simp only [namesOf, List.getElem_map]
 have h6 : (l[j]).1.toList = (m[j]).1.toList := by simpa [sameSide] using h5
 exact bytes_ext h6
theorem fitP_call (x y : SideD) (W : World) :
  Calls Tryz.prog 92 #[.agg #[.string x.1, .int .i64 x.2.1, .int .i64 x.2.2], .agg #[.string y.1, .int .i64 y.2.1, .int .i64 y.2.2]] W (Gives (.bool (sameSide x y)) W) := by
 obtain ⟨n, a, b⟩ := x
 obtain ⟨m, c, d⟩ := y
 unfold sameSide
 go_enter Tryz.func92, Tryz.ntmps92
 go_wp2
 all_goals
  go_ret
  exact ⟨ret_bool (by simp [*]), gT (gA _ _ _) (gA _ _ _)⟩
set_option maxRecDepth 100000 in
set_option maxHeartbeats 2000000 in
theorem equalSidesP_any (v u : Value) (l m : List SideD) (w : World) (hl : SidesAt w v l) (hm : SidesAt w u m) :
  Calls Tryz.prog 58 #[v, u, .func (.func 92) #[] #[]] w (Gives (.bool (fitB l m)) w) := by
 obtain ⟨p, cap, rfl, ⟨hlen, _⟩, hc⟩ := hl
 obtain ⟨q, qap, rfl, ⟨hlem, _⟩, hd⟩ := hm
 have H := uH hc
 have D := uH hd
 clear hc hd
 by_cases he : l.length = m.length
 · have HL := uH he
   have hl0 : ((l.length : Int) != (m.length : Int)) = false := by simp [he]
   clear he
   go_enter Tryz.func58, Tryz.ntmps58
   go_wp2
   go_loopw [17] (fun i wr => ∃ k : Nat, k ≤ l.length ∧ i = .int .i64 k ∧ Hid ((((l.zip m).take k).all fun p => sameSide p.1 p.2) = true) ∧ Hid (w.grownBy wr none)) (fun i _ => l.length - (intOf i).toNat)
   case atStart => exact ⟨0, Nat.zero_le _, rfl, by show _ = _; rfl, gR _ _⟩
   case round =>
    obtain ⟨k, hk, rfl, HR, HG⟩ := hrel
    by_cases hlt : k < l.length
    · have hlt2 : k < m.length := by rw [← HL.out]; exact hlt
      have h0 := List.getElem?_eq_getElem hlt
      have h1 := List.getElem?_eq_getElem hlt2
      obtain ⟨b, off, rfl, h3, ⟨h4, h4'⟩, ⟨h5, h5'⟩, h6, h7, h8⟩ := (H.out k _ h0).kept HG.out
      obtain ⟨b2, off2, rfl, g3, ⟨g4, g4'⟩, ⟨g5, g5'⟩, g6, g7, g8⟩ := (D.out k _ h1).kept HG.out
      have HS := uH (fun h => fit_snoc h0 h1 h HR.out)
      have HM := uH (fun h => fit_miss h0 h1 h)
      have HC := uH (fun W => fitP_call l[k] m[k] W)
      have HGa := gA wr (.cells #[.string (l[k]).1, .int .i64 (l[k]).2.1, .int .i64 (l[k]).2.2] 63) none
      have g6a := HGa.cell g6 (by simp)
      have g7a := HGa.cell g7 (by simp)
      have g8a := HGa.cell g8 (by simp)
      clear HGa
      generalize l[k] = x at *
      generalize m[k] = y at *
      obtain ⟨n, lo, hi⟩ := x
      obtain ⟨n2, lo2, hi2⟩ := y
      simp only at h3 h4 h4' h5 h5' h6 h7 h8 g3 g4 g4' g5 g5' g6 g7 g8 g6a g7a g8a
      have hI1 : (k : Int) < (l.length : Int) := by omega
      have hI2 : (k : Int) < (m.length : Int) := by omega
      clear h0 h1
      cases hs : sameSide (n, lo, hi) (n2, lo2, hi2)
      · have HF := uH hs
        clear hs
        go_wp2_with (first | (go_at_call 92; go_must (refine (HC.out _).mono ?_; rintro e w' ⟨rfl, hg1⟩; rw [HF.out]; have G1 := uH (gT (gA _ _ _) (gT (gA _ _ _) hg1)); clear hg1)))
        go_ret
        exact ⟨ret_bool (HM.out HF.out).symm, gT HG.out G1.out⟩
      · have HF := uH hs
        clear hs
        go_wp2_with (first | (go_at_call 92; go_must (refine (HC.out _).mono ?_; rintro e w' ⟨rfl, hg1⟩; rw [HF.out]; have G1 := uH (gT (gA _ _ _) (gT (gA _ _ _) hg1)); clear hg1)))
        go_roundw
        case rel => exact ⟨k + 1, by omega, by go_num, HS.out HF.out, gT HG.out G1.out⟩
        case measure => simp [intOf]; omega
    · obtain rfl : k = l.length := by omega
      have HF := uH (fit_done HL.out HR.out)
      go_wp2
      go_ret
      exact ⟨ret_bool HF.out.symm, HG.out⟩
 · have hl0 : ((l.length : Int) != (m.length : Int)) = true := by simp; omega
   have HF := uH (fit_len he)
   clear he
   go_enter Tryz.func58, Tryz.ntmps58
   go_wp2
   go_ret
   exact ⟨ret_bool HF.out.symm, gR _ _⟩
theorem fitR_call (x y : SideD) (W : World) :
  Calls Tryz.prog 59 #[.agg #[.string x.1, .int .i64 x.2.1, .int .i64 x.2.2], .agg #[.string y.1, .int .i64 y.2.1, .int .i64 y.2.2]] W (Gives (.bool (sameSide x y)) W) := by
 obtain ⟨n, a, b⟩ := x
 obtain ⟨m, c, d⟩ := y
 unfold sameSide
 go_enter Tryz.func59, Tryz.ntmps59
 go_wp2
 all_goals
  go_ret
  exact ⟨ret_bool (by simp [*]), gT (gA _ _ _) (gA _ _ _)⟩
set_option maxRecDepth 100000 in
set_option maxHeartbeats 2000000 in
theorem equalSidesR_any (v u : Value) (l m : List SideD) (w : World) (hl : SidesAt w v l) (hm : SidesAt w u m) :
  Calls Tryz.prog 58 #[v, u, .func (.func 59) #[] #[]] w (Gives (.bool (fitB l m)) w) := by
 obtain ⟨p, cap, rfl, ⟨hlen, _⟩, hc⟩ := hl
 obtain ⟨q, qap, rfl, ⟨hlem, _⟩, hd⟩ := hm
 have H := uH hc
 have D := uH hd
 clear hc hd
 by_cases he : l.length = m.length
 · have HL := uH he
   have hl0 : ((l.length : Int) != (m.length : Int)) = false := by simp [he]
   clear he
   go_enter Tryz.func58, Tryz.ntmps58
   go_wp2
   go_loopw [17] (fun i wr => ∃ k : Nat, k ≤ l.length ∧ i = .int .i64 k ∧ Hid ((((l.zip m).take k).all fun p => sameSide p.1 p.2) = true) ∧ Hid (w.grownBy wr none)) (fun i _ => l.length - (intOf i).toNat)
   case atStart => exact ⟨0, Nat.zero_le _, rfl, by show _ = _; rfl, gR _ _⟩
   case round =>
    obtain ⟨k, hk, rfl, HR, HG⟩ := hrel
    by_cases hlt : k < l.length
    · have hlt2 : k < m.length := by rw [← HL.out]; exact hlt
      have h0 := List.getElem?_eq_getElem hlt
      have h1 := List.getElem?_eq_getElem hlt2
      obtain ⟨b, off, rfl, h3, ⟨h4, h4'⟩, ⟨h5, h5'⟩, h6, h7, h8⟩ := (H.out k _ h0).kept HG.out
      obtain ⟨b2, off2, rfl, g3, ⟨g4, g4'⟩, ⟨g5, g5'⟩, g6, g7, g8⟩ := (D.out k _ h1).kept HG.out
      have HS := uH (fun h => fit_snoc h0 h1 h HR.out)
      have HM := uH (fun h => fit_miss h0 h1 h)
      have HC := uH (fun W => fitR_call l[k] m[k] W)
      have HGa := gA wr (.cells #[.string (l[k]).1, .int .i64 (l[k]).2.1, .int .i64 (l[k]).2.2] 63) none
      have g6a := HGa.cell g6 (by simp)
      have g7a := HGa.cell g7 (by simp)
      have g8a := HGa.cell g8 (by simp)
      clear HGa
      generalize l[k] = x at *
      generalize m[k] = y at *
      obtain ⟨n, lo, hi⟩ := x
      obtain ⟨n2, lo2, hi2⟩ := y
      simp only at h3 h4 h4' h5 h5' h6 h7 h8 g3 g4 g4' g5 g5' g6 g7 g8 g6a g7a g8a
      have hI1 : (k : Int) < (l.length : Int) := by omega
      have hI2 : (k : Int) < (m.length : Int) := by omega
      clear h0 h1
      cases hs : sameSide (n, lo, hi) (n2, lo2, hi2)
      · have HF := uH hs
        clear hs
        go_wp2_with (first | (go_at_call 59; go_must (refine (HC.out _).mono ?_; rintro e w' ⟨rfl, hg1⟩; rw [HF.out]; have G1 := uH (gT (gA _ _ _) (gT (gA _ _ _) hg1)); clear hg1)))
        go_ret
        exact ⟨ret_bool (HM.out HF.out).symm, gT HG.out G1.out⟩
      · have HF := uH hs
        clear hs
        go_wp2_with (first | (go_at_call 59; go_must (refine (HC.out _).mono ?_; rintro e w' ⟨rfl, hg1⟩; rw [HF.out]; have G1 := uH (gT (gA _ _ _) (gT (gA _ _ _) hg1)); clear hg1)))
        go_roundw
        case rel => exact ⟨k + 1, by omega, by go_num, HS.out HF.out, gT HG.out G1.out⟩
        case measure => simp [intOf]; omega
    · obtain rfl : k = l.length := by omega
      have HF := uH (fit_done HL.out HR.out)
      go_wp2
      go_ret
      exact ⟨ret_bool HF.out.symm, HG.out⟩
 · have hl0 : ((l.length : Int) != (m.length : Int)) = true := by simp; omega
   have HF := uH (fit_len he)
   clear he
   go_enter Tryz.func58, Tryz.ntmps58
   go_wp2
   go_ret
   exact ⟨ret_bool HF.out.symm, gR _ _⟩
theorem namesFit_any (S T : List SideD × List CondD) (sv cv tv dv : Value) (w : World) (hS : SetAt w sv cv S) (hT : SetAt w tv dv T) :
  Calls Tryz.prog 16 #[.agg #[sv, cv], .agg #[tv, dv]] w (Gives (.bool (fitB S.1 T.1)) w) := by
 have HS := uH hS.1
 have HT := uH hT.1
 clear hS hT
 go_enter Tryz.func16, Tryz.ntmps16
 go_wp2_with (first | (go_at_call 58; go_must (refine (equalSidesR_any _ _ S.1 T.1 _ (HS.out.kept (gT (gA _ _ _) (gA _ _ _))) (HT.out.kept (gT (gA _ _ _) (gA _ _ _)))).mono ?_; rintro e w' ⟨rfl, hg1⟩; have G1 := uH (gT (gA _ _ _) (gT (gA _ _ _) hg1)); clear hg1)))
 go_ret
 exact ⟨rfl, G1.out⟩
end Go.Proofs.YtgeklmigfhhpfaaGreatDoor
namespace Go.Proofs.YtgeklmigfhhpfaaGreatDoor
open Go.RowKit
attribute [local go_sem ↓] Go.wp_at_zero Go.wp_at_succ
def bothErr (S T : List SideD × List CondD) : Int := if setErr S = 0 then (if setErr T = 0 then (if fitB S.1 T.1 = true then 0 else 3) else setErr T) else setErr S
theorem results_spaces {fn : Func} {p q u : Tmp} (h : fn.results = #[.cell p 81, .cell q 81, .tmp u]) (tmps : Array Value) (w : World) (g g' : Nat) (t t' : TypeId) (a b c d : Value) (fr fr' : Nat × Nat)
  (hp : tmps.getD p undef = .pointer (some ⟨g, 0, none⟩)) (hg : w.heap[g]? = some (.cells #[a, b] t fr)) (hp' : tmps.getD q undef = .pointer (some ⟨g', 0, none⟩)) (hg' : w.heap[g']? = some (.cells #[c, d] t' fr')) :
  (results fn tmps).run Tryz.prog w = .ok (.tuple #[.agg #[a, b], .agg #[c, d], tmps.getD u undef]) w := by
 have e : (results fn tmps).run Tryz.prog w = ((asAddr (tmps.getD p undef)).run Tryz.prog w).andThen fun a w₁ => ((loadVar 81 a).run Tryz.prog w₁).andThen fun x w₂ => ((asAddr (tmps.getD q undef)).run Tryz.prog w₂).andThen fun b w₃ => ((loadVar 81 b).run Tryz.prog w₃).andThen fun y w₄ => .ok (.tuple #[x, y, tmps.getD u undef]) w₄ := by
  simp only [results, h]
  simp [Sem.run_bind, Result.andThen]
 rw [e, hp, hp']
 simp [asAddr, run_loadVar_row w g t 81 #[a, b] fr _ hg Tryz.underlying81 rfl Tryz.infoSpace2, run_loadVar_row w g' t' 81 #[c, d] fr' _ hg' Tryz.underlying81 rfl Tryz.infoSpace2, Result.andThen]
def SpacesOut (S T : List SideD × List CondD) (sv tv : Value) (w : World) (e : Ending) (w' : World) : Prop :=
 w.grownBy w' none ∧ (bothErr S T ≠ 0 → e = .returned (.tuple #[.agg #[.slice none 0 0, .slice none 0 0], .agg #[.slice none 0 0, .slice none 0 0], .int .i64 (bothErr S T)])) ∧
  (bothErr S T = 0 → ∃ kv kw cvs cws, e = .returned (.tuple #[.agg #[sv, kv], .agg #[tv, kw], .int .i64 0]) ∧ RSt w' w.heap.size kv (rowsOf S) cvs ∧ RSt w' w.heap.size kw (rowsOf T) cws)
structure S2 (w0 wr : World) (X : Nat) (sv kv : Value) : Prop where
 grown : w0.grownBy wr none
 newX : w0.heap.size + 4 ≤ X
 r1 : wr.heap[w0.heap.size + 2]? = some (.cells #[.slice none 0 0, .slice none 0 0] 81 (0, 0))
 r2 : wr.heap[w0.heap.size + 3]? = some (.cells #[.slice none 0 0, .slice none 0 0] 81 (0, 0))
 box : wr.heap[X]? = some (.cells #[sv, kv] 81 (0, 0))
theorem S2.kept {w0 wr w' : World} {X : Nat} {sv kv : Value} (h : S2 w0 wr X sv kv) (hg : wr.grownBy w' none) : S2 w0 w' X sv kv := ⟨gT h.grown hg, h.newX, kH h.r1 hg (by simp), kH h.r2 hg (by simp), kH h.box hg (by simp)⟩
structure B4 (w0 wr : World) (a b c d : Value) : Prop where
 grown : w0.grownBy wr none
 old : w0.heap.size + 4 ≤ wr.heap.size
 q1 : wr.heap[w0.heap.size]? = some (.cells #[a, b] 29 (0, 0))
 q2 : wr.heap[w0.heap.size + 1]? = some (.cells #[c, d] 29 (0, 0))
 r1 : wr.heap[w0.heap.size + 2]? = some (.cells #[.slice none 0 0, .slice none 0 0] 81 (0, 0))
 r2 : wr.heap[w0.heap.size + 3]? = some (.cells #[.slice none 0 0, .slice none 0 0] 81 (0, 0))
theorem B4.kept {w0 wr w' : World} {a b c d : Value} (h : B4 w0 wr a b c d) (hg : wr.grownBy w' none) : B4 w0 w' a b c d := ⟨gT h.grown hg, Nat.le_trans h.old hg.size, kH h.q1 hg (by simp), kH h.q2 hg (by simp), kH h.r1 hg (by simp), kH h.r2 hg (by simp)⟩
theorem B4.start (w : World) (a b c d : Value) : B4 w ((((w.alloc (.cells #[a, b] 29)).alloc (.cells #[c, d] 29)).alloc (.cells #[.slice none 0 0, .slice none 0 0] 81)).alloc (.cells #[.slice none 0 0, .slice none 0 0] 81)) a b c d := by
 have h1 := heap_alloc_new w (.cells #[a, b] 29)
 generalize hA : w.alloc (.cells #[a, b] 29) = wa at h1 ⊢
 have ga : w.grownBy wa none := by subst hA; exact gA _ _ _
 have sa : wa.heap.size = w.heap.size + 1 := by subst hA; simp
 have h2 := heap_alloc_new wa (.cells #[c, d] 29)
 generalize hB : wa.alloc (.cells #[c, d] 29) = wb at h2 ⊢
 have gb : wa.grownBy wb none := by subst hB; exact gA _ _ _
 have sb : wb.heap.size = w.heap.size + 2 := by subst hB; simp; omega
 have h3 := heap_alloc_new wb (.cells #[.slice none 0 0, .slice none 0 0] 81)
 generalize hC : wb.alloc (.cells #[.slice none 0 0, .slice none 0 0] 81) = wc at h3 ⊢
 have gc : wb.grownBy wc none := by subst hC; exact gA _ _ _
 have sc : wc.heap.size = w.heap.size + 3 := by subst hC; simp; omega
 have h4 := heap_alloc_new wc (.cells #[.slice none 0 0, .slice none 0 0] 81)
 have gd := gA wc (.cells #[.slice none 0 0, .slice none 0 0] 81) none
 rw [sa] at h2
 rw [sb] at h3
 rw [sc] at h4
 exact ⟨gT ga (gT gb (gT gc gd)), by have := gd.size; simp; omega, kH (kH (kH h1 gb (by simp)) gc (by simp)) gd (by simp), kH (kH h2 gc (by simp)) gd (by simp), kH h3 gd (by simp), h4⟩
theorem B4.s2 {w0 wr : World} {a b c d sv kv : Value} (h : B4 w0 wr a b c d) : S2 w0 (wr.alloc (.cells #[sv, kv] 81)) wr.heap.size sv kv := by
 have ga := gA wr (.cells #[sv, kv] 81) none
 exact ⟨gT h.grown ga, h.old, kH h.r1 ga (by simp), kH h.r2 ga (by simp), heap_alloc_new _ _⟩
theorem two_far {w : World} {R B k : Nat} {a b x : Value} (h : w.cell? ⟨B, k, none⟩ = some x) (hne : B ≠ R) : ((w.setCell ⟨R, 0, none⟩ a).setCell ⟨R, 1, none⟩ b).drew.cell? ⟨B, k, none⟩ = some x := by
 have h2 := far_cell hne (gT (gS w R 0 a) (gS (w.setCell ⟨R, 0, none⟩ a) R 1 b)) h
 exact h2
theorem four_far {w : World} {R Q B k : Nat} {a b c d x : Value} (h : w.cell? ⟨B, k, none⟩ = some x) (hne : B ≠ R) (hnq : B ≠ Q) : ((((w.setCell ⟨R, 0, none⟩ a).setCell ⟨R, 1, none⟩ b).setCell ⟨Q, 0, none⟩ c).setCell ⟨Q, 1, none⟩ d).drew.cell? ⟨B, k, none⟩ = some x := by
 have h2 := two_far (a := a) (b := b) h hne
 have h3 := two_far (w := (w.setCell ⟨R, 0, none⟩ a).setCell ⟨R, 1, none⟩ b) (a := c) (b := d) h2 hnq
 exact h3
theorem spaces_done {w0 wr : World} {X : Nat} {s k : Value} (h : S2 w0 wr X s k) (a b c d : Value) :
  w0.grownBy ((((wr.setCell ⟨w0.heap.size + 2, 0, none⟩ a).setCell ⟨w0.heap.size + 2, 1, none⟩ b).setCell ⟨w0.heap.size + 3, 0, none⟩ c).setCell ⟨w0.heap.size + 3, 1, none⟩ d) none ∧
  wr.grownBy ((wr.setCell ⟨w0.heap.size + 2, 0, none⟩ a).setCell ⟨w0.heap.size + 2, 1, none⟩ b) (some (w0.heap.size + 2)) ∧
  ((wr.setCell ⟨w0.heap.size + 2, 0, none⟩ a).setCell ⟨w0.heap.size + 2, 1, none⟩ b).grownBy ((((wr.setCell ⟨w0.heap.size + 2, 0, none⟩ a).setCell ⟨w0.heap.size + 2, 1, none⟩ b).setCell ⟨w0.heap.size + 3, 0, none⟩ c).setCell ⟨w0.heap.size + 3, 1, none⟩ d) (some (w0.heap.size + 3)) ∧
  ((((wr.setCell ⟨w0.heap.size + 2, 0, none⟩ a).setCell ⟨w0.heap.size + 2, 1, none⟩ b).setCell ⟨w0.heap.size + 3, 0, none⟩ c).setCell ⟨w0.heap.size + 3, 1, none⟩ d).heap[w0.heap.size + 2]? = some (.cells #[a, b] 81 (0, 0)) ∧
  ((((wr.setCell ⟨w0.heap.size + 2, 0, none⟩ a).setCell ⟨w0.heap.size + 2, 1, none⟩ b).setCell ⟨w0.heap.size + 3, 0, none⟩ c).setCell ⟨w0.heap.size + 3, 1, none⟩ d).heap[w0.heap.size + 3]? = some (.cells #[c, d] 81 (0, 0)) := by
 obtain ⟨h1, g1⟩ := two_set h.r1 a b
 have h2 := kH h.r2 g1 (by simp)
 obtain ⟨h3, g3⟩ := two_set h2 c d
 exact ⟨gO (gO h.grown g1 (fun k hk => by cases hk; omega)) g3 (fun k hk => by cases hk; omega), g1, g3, kH h1 g3 (by simp), h3⟩
set_option maxRecDepth 100000 in
set_option maxHeartbeats 8000000 in
theorem spacesOf_any (S T : List SideD × List CondD) (sv cv tv dv : Value) (w : World) (hS : SetAt w sv cv S) (hT : SetAt w tv dv T) :
  Calls Tryz.prog 43 #[.agg #[sv, cv], .agg #[tv, dv]] w (SpacesOut S T sv tv w) := by
 obtain ⟨ps, scap, rfl, _⟩ := id hS.1
 obtain ⟨pt, tcap, rfl, _⟩ := id hT.1
 obtain ⟨pc, ccap, rfl, _⟩ := id hS.2
 obtain ⟨pd, dcap, rfl, _⟩ := id hT.2
 have HS := uH hS
 have HT := uH hT
 have HB := uH (B4.start w (.slice ps S.1.length scap) (.slice pc S.2.length ccap) (.slice pt T.1.length tcap) (.slice pd T.2.length dcap))
 clear hS hT
 by_cases hE : setErr S = 0
 · have HE := uH hE
   clear hE
   by_cases hF : setErr T = 0
   · have HF := uH hF
     clear hF
     cases hfit : fitB S.1 T.1
     · have HFit := uH hfit
       have HR : Hid (bothErr S T = 3) := by
        show _ = _
        unfold bothErr
        rw [if_pos HE.out, if_pos HF.out, HFit.out]
        rfl
       clear hfit
       go_enter Tryz.func43, Tryz.ntmps43
       go_upto_region 1 with fail
       generalize (((w.alloc (.cells #[.slice ps S.1.length scap, .slice pc S.2.length ccap] 29)).alloc (.cells #[.slice pt T.1.length tcap, .slice pd T.2.length dcap] 29)).alloc (.cells #[.slice none 0 0, .slice none 0 0] 81)).alloc (.cells #[.slice none 0 0, .slice none 0 0] 81) = wb at *
       obtain ⟨q10, q11, _⟩ := cO HB.out.q1
       go_upto_region 4 with (go_at_call 49; go_must (refine (spaceOf_room S _ _ _ (HS.out.kept HB.out.grown)).mono ?_; rintro e w2 ⟨hg, _, hok⟩; obtain ⟨kv, cvs, rfl, hk⟩ := hok HE.out; obtain ⟨pk, kcap, rfl⟩ := own_form hk.row; have hga := gA w2 (.cells #[.slice ps S.1.length scap, .slice pk (rowsOf S).length kcap] 81) none; have HX2 := uH ((HB.out.kept hg).s2 (sv := .slice ps S.1.length scap) (kv := .slice pk (rowsOf S).length kcap)); have HB2 := uH ((HB.out.kept hg).kept hga); have HK2 := uH (RSt.lower (hk.kept hga (fun k hk => by cases hk)) (P' := w.heap.size + 4) HB.out.old); clear hg hok hk hga q10 q11; obtain ⟨q20, q21, _⟩ := cO HB2.out.q2))
       go_wp2_with (first
        | (go_at_call 49; go_must (refine (spaceOf_room T _ _ _ (HT.out.kept HB2.out.grown)).mono ?_; rintro e w3 ⟨hg, _, hok⟩; obtain ⟨kw, cws, rfl, hk⟩ := hok HF.out; obtain ⟨pq, qcap, rfl⟩ := own_form hk.row; have hz3 : w.heap.size + 4 ≤ w3.heap.size := Nat.le_trans HB2.out.old hg.size; have hz2 := HX2.out.newX; have hga := gA w3 (.cells #[.slice pt T.1.length tcap, .slice pq (rowsOf T).length qcap] 81) none; have HX3 := uH (HX2.out.kept (gT hg hga)); have HK3 := uH (HK2.out.kept (gT hg hga) (fun k hk => by cases hk)); have HQ3 := uH (RSt.lower (hk.kept hga (fun k hk => by cases hk)) (P' := w.heap.size + 4) HB2.out.old); have HN3 := uH (heap_alloc_new w3 (.cells #[.slice pt T.1.length tcap, .slice pq (rowsOf T).length qcap] 81)); clear hg hok hk hga q20 q21; obtain ⟨x0, x1, _⟩ := cO HX3.out.box; obtain ⟨y0, y1, _⟩ := cO HN3.out))
        | (go_at_call 58; go_must (refine (equalSidesP_any _ _ S.1 T.1 _ (HS.out.1.kept HX3.out.grown) (HT.out.1.kept HX3.out.grown)).mono ?_; rintro e w5 ⟨rfl, hg⟩; rw [HFit.out]; have HX5 := uH (HX3.out.kept hg); have HK5 := uH (HK3.out.kept hg (fun k hk => by cases hk)); have HQ5 := uH (HQ3.out.kept hg (fun k hk => by cases hk)); have HN5 := uH (kH HN3.out hg (by simp)); clear hg x0 x1 y0 y1; obtain ⟨v0, v1, _⟩ := cO HX5.out.box; obtain ⟨t0, t1, _⟩ := cO HN5.out; obtain ⟨z0, z1, zf⟩ := cO HX5.out.r1; obtain ⟨u0, u1, uf⟩ := cO HX5.out.r2)))
       obtain ⟨D1, D2, D3, D4, D5⟩ := spaces_done HX5.out (.slice none 0 0) (.slice none 0 0) (.slice none 0 0) (.slice none 0 0)
       exact bodyPost_ret (results_spaces rfl _ _ (w.heap.size + 2) (w.heap.size + 3) _ _ _ _ _ _ _ _ rfl D4 rfl D5) rfl ⟨D1, fun _ => by rw [HR.out]; rfl, fun h => by rw [HR.out] at h; cases h⟩
     · have HFit := uH hfit
       have HR : Hid (bothErr S T = 0) := by
        show _ = _
        unfold bothErr
        rw [if_pos HE.out, if_pos HF.out, HFit.out]
        rfl
       clear hfit
       go_enter Tryz.func43, Tryz.ntmps43
       go_upto_region 1 with fail
       generalize (((w.alloc (.cells #[.slice ps S.1.length scap, .slice pc S.2.length ccap] 29)).alloc (.cells #[.slice pt T.1.length tcap, .slice pd T.2.length dcap] 29)).alloc (.cells #[.slice none 0 0, .slice none 0 0] 81)).alloc (.cells #[.slice none 0 0, .slice none 0 0] 81) = wb at *
       obtain ⟨q10, q11, _⟩ := cO HB.out.q1
       go_upto_region 4 with (go_at_call 49; go_must (refine (spaceOf_room S _ _ _ (HS.out.kept HB.out.grown)).mono ?_; rintro e w2 ⟨hg, _, hok⟩; obtain ⟨kv, cvs, rfl, hk⟩ := hok HE.out; obtain ⟨pk, kcap, rfl⟩ := own_form hk.row; have hga := gA w2 (.cells #[.slice ps S.1.length scap, .slice pk (rowsOf S).length kcap] 81) none; have HX2 := uH ((HB.out.kept hg).s2 (sv := .slice ps S.1.length scap) (kv := .slice pk (rowsOf S).length kcap)); have HB2 := uH ((HB.out.kept hg).kept hga); have HK2 := uH (RSt.lower (hk.kept hga (fun k hk => by cases hk)) (P' := w.heap.size + 4) HB.out.old); clear hg hok hk hga q10 q11; obtain ⟨q20, q21, _⟩ := cO HB2.out.q2))
       go_upto_region 9 with (first
        | (go_at_call 49; go_must (refine (spaceOf_room T _ _ _ (HT.out.kept HB2.out.grown)).mono ?_; rintro e w3 ⟨hg, _, hok⟩; obtain ⟨kw, cws, rfl, hk⟩ := hok HF.out; obtain ⟨pq, qcap, rfl⟩ := own_form hk.row; have hz3 : w.heap.size + 4 ≤ w3.heap.size := Nat.le_trans HB2.out.old hg.size; have hz2 := HX2.out.newX; have hga := gA w3 (.cells #[.slice pt T.1.length tcap, .slice pq (rowsOf T).length qcap] 81) none; have HX3 := uH (HX2.out.kept (gT hg hga)); have HK3 := uH (HK2.out.kept (gT hg hga) (fun k hk => by cases hk)); have HQ3 := uH (RSt.lower (hk.kept hga (fun k hk => by cases hk)) (P' := w.heap.size + 4) HB2.out.old); have HN3 := uH (heap_alloc_new w3 (.cells #[.slice pt T.1.length tcap, .slice pq (rowsOf T).length qcap] 81)); clear hg hok hk hga q20 q21; obtain ⟨x0, x1, _⟩ := cO HX3.out.box; obtain ⟨y0, y1, _⟩ := cO HN3.out))
        | (go_at_call 58; go_must (refine (equalSidesP_any _ _ S.1 T.1 _ (HS.out.1.kept HX3.out.grown) (HT.out.1.kept HX3.out.grown)).mono ?_; rintro e w5 ⟨rfl, hg⟩; rw [HFit.out]; have HX5 := uH (HX3.out.kept hg); have HK5 := uH (HK3.out.kept hg (fun k hk => by cases hk)); have HQ5 := uH (HQ3.out.kept hg (fun k hk => by cases hk)); have HN5 := uH (kH HN3.out hg (by simp)); clear hg x0 x1 y0 y1; obtain ⟨v0, v1, _⟩ := cO HX5.out.box; obtain ⟨t0, t1, _⟩ := cO HN5.out; obtain ⟨z0, z1, zf⟩ := cO HX5.out.r1; obtain ⟨u0, u1, uf⟩ := cO HX5.out.r2)))
       go_region_held3 (fun W => W.cell? ⟨w2.heap.size, 0, none⟩ = some (.slice ps S.1.length scap) ∧ W.cell? ⟨w2.heap.size, 1, none⟩ = some (.slice pk (rowsOf S).length kcap) ∧ W.cell? ⟨w3.heap.size, 0, none⟩ = some (.slice pt T.1.length tcap) ∧ W.cell? ⟨w3.heap.size, 1, none⟩ = some (.slice pq (rowsOf T).length qcap)) (first | with_reducible exact ⟨two_far v0 (by omega), two_far v1 (by omega), two_far t0 (by omega), two_far t1 (by omega)⟩ | with_reducible exact ⟨four_far v0 (by omega) (by omega), four_far v1 (by omega) (by omega), four_far t0 (by omega) (by omega), four_far t1 (by omega) (by omega)⟩ | go_keep) (fail)
       all_goals
        go_wp2
        obtain ⟨D1, D2, D3, D4, D5⟩ := spaces_done HX5.out (.slice ps S.1.length scap) (.slice pk (rowsOf S).length kcap) (.slice pt T.1.length tcap) (.slice pq (rowsOf T).length qcap)
        have hk := (HK5.out.kept D2 (fun k hk => by cases hk; omega)).kept D3 (fun k hk => by cases hk; omega)
        have hq := (HQ5.out.kept D2 (fun k hk => by cases hk; omega)).kept D3 (fun k hk => by cases hk; omega)
        refine bodyPost_ret (results_spaces rfl _ _ (w.heap.size + 2) (w.heap.size + 3) _ _ _ _ _ _ _ _ rfl D4 rfl D5) rfl ⟨gT D1 (gD _ none), fun h => absurd HR.out h, fun _ => ⟨_, _, cvs, cws, rfl, (hk.kept (gD _ none) (fun k hk => by cases hk)).lower (by omega), (hq.kept (gD _ none) (fun k hk => by cases hk)).lower (by omega)⟩⟩
   · have hF0 : (setErr T != 0) = true := by simpa using hF
     have HF := uH hF
     have HR : Hid (bothErr S T = setErr T) := by
      show _ = _
      unfold bothErr
      rw [if_pos HE.out, if_neg HF.out]
     clear hF
     go_enter Tryz.func43, Tryz.ntmps43
     go_upto_region 1 with fail
     generalize (((w.alloc (.cells #[.slice ps S.1.length scap, .slice pc S.2.length ccap] 29)).alloc (.cells #[.slice pt T.1.length tcap, .slice pd T.2.length dcap] 29)).alloc (.cells #[.slice none 0 0, .slice none 0 0] 81)).alloc (.cells #[.slice none 0 0, .slice none 0 0] 81) = wb at *
     obtain ⟨q10, q11, _⟩ := cO HB.out.q1
     go_upto_region 4 with (go_at_call 49; go_must (refine (spaceOf_room S _ _ _ (HS.out.kept HB.out.grown)).mono ?_; rintro e w2 ⟨hg, _, hok⟩; obtain ⟨kv, cvs, rfl, hk⟩ := hok HE.out; obtain ⟨pk, kcap, rfl⟩ := own_form hk.row; have hga := gA w2 (.cells #[.slice ps S.1.length scap, .slice pk (rowsOf S).length kcap] 81) none; have HX2 := uH ((HB.out.kept hg).s2 (sv := .slice ps S.1.length scap) (kv := .slice pk (rowsOf S).length kcap)); have HB2 := uH ((HB.out.kept hg).kept hga); have HK2 := uH (RSt.lower (hk.kept hga (fun k hk => by cases hk)) (P' := w.heap.size + 4) HB.out.old); clear hg hok hk hga q10 q11; obtain ⟨q20, q21, _⟩ := cO HB2.out.q2))
     go_wp2_with (go_at_call 49; go_must (refine (spaceOf_room T _ _ _ (HT.out.kept HB2.out.grown)).mono ?_; rintro e w3 ⟨hg, hno, _⟩; obtain rfl := hno HF.out; have hga := gA w3 (.cells #[.slice none 0 0, .slice none 0 0] 81) none; have HX5 := uH (HX2.out.kept (gT hg hga)); clear hg hno hga q20 q21; obtain ⟨z0, z1, zf⟩ := cO HX5.out.r1; obtain ⟨u0, u1, uf⟩ := cO HX5.out.r2))
     obtain ⟨D1, D2, D3, D4, D5⟩ := spaces_done HX5.out (.slice none 0 0) (.slice none 0 0) (.slice none 0 0) (.slice none 0 0)
     exact bodyPost_ret (results_spaces rfl _ _ (w.heap.size + 2) (w.heap.size + 3) _ _ _ _ _ _ _ _ rfl D4 rfl D5) rfl ⟨D1, fun _ => by rw [HR.out]; rfl, fun h => absurd (by rw [← HR.out]; exact h) HF.out⟩
 · have hE0 : (setErr S != 0) = true := by simpa using hE
   have HE := uH hE
   have HR : Hid (bothErr S T = setErr S) := by
    show _ = _
    unfold bothErr
    rw [if_neg HE.out]
   clear hE
   go_enter Tryz.func43, Tryz.ntmps43
   go_upto_region 1 with fail
   generalize (((w.alloc (.cells #[.slice ps S.1.length scap, .slice pc S.2.length ccap] 29)).alloc (.cells #[.slice pt T.1.length tcap, .slice pd T.2.length dcap] 29)).alloc (.cells #[.slice none 0 0, .slice none 0 0] 81)).alloc (.cells #[.slice none 0 0, .slice none 0 0] 81) = wb at *
   obtain ⟨q10, q11, _⟩ := cO HB.out.q1
   go_wp2_with (go_at_call 49; go_must (refine (spaceOf_room S _ _ _ (HS.out.kept HB.out.grown)).mono ?_; rintro e w2 ⟨hg, hno, _⟩; obtain rfl := hno HE.out; have HX5 := uH ((HB.out.kept hg).s2 (sv := .slice none 0 0) (kv := .slice none 0 0)); clear hg hno q10 q11; obtain ⟨z0, z1, zf⟩ := cO HX5.out.r1; obtain ⟨u0, u1, uf⟩ := cO HX5.out.r2))
   obtain ⟨D1, D2, D3, D4, D5⟩ := spaces_done HX5.out (.slice none 0 0) (.slice none 0 0) (.slice none 0 0) (.slice none 0 0)
   exact bodyPost_ret (results_spaces rfl _ _ (w.heap.size + 2) (w.heap.size + 3) _ _ _ _ _ _ _ _ rfl D4 rfl D5) rfl ⟨D1, fun _ => by rw [HR.out]; rfl, fun h => absurd (by rw [← HR.out]; exact h) HE.out⟩
end Go.Proofs.YtgeklmigfhhpfaaGreatDoor
