/-
 AnyForm: a form that a stream draws.
-/
import Derived.Test.YtblpknkgjkbacaaGreatDoorQ10
namespace Go.Proofs.YtblpknkgjkbacaaGreatDoor
set_option linter.unusedVariables false
open Go.RowKit
attribute [local go_sem ↓] Go.wp_at_zero Go.wp_at_succ
/-- The state of AnyForm: what it draws from, the form so far, the result's place. -/
structure FSt (B m X : Nat) (w0 w : World) (c : Int) (v : Value) (ts : List TermD) : Prop where
  lt : B < w0.heap.size
  drawn : Drawn B m w0 w
  box : w.heap[X]? = some (.cells #[.int .i64 c, v] 28 (0, 0))
  res : w.heap[w0.heap.size]? = some (.cells #[.int .i64 0, .slice none 0 0] 28 (0, 0))
  newX : w0.heap.size < X
  row : TermRow w (w0.heap.size + 1) v ts
  ne : ∀ k, v.ownBlock = some k → k ≠ X
  good : ∀ t ∈ ts, goodTerm t
variable {B m m' X : Nat} {w0 w w' : World} {c : Int} {v : Value} {ts : List TermD}
theorem FSt.size (h : FSt B m X w0 w c v ts) : X < w.heap.size := (Array.getElem?_eq_some_iff.1 h.box).1
theorem FSt.x0 (h : FSt B m X w0 w c v ts) : w.cell? ⟨X, 0, none⟩ = some (.int .i64 c) := by simp [World.cell?, h.box]
theorem FSt.x1 (h : FSt B m X w0 w c v ts) : w.cell? ⟨X, 1, none⟩ = some v := by simp [World.cell?, h.box]
theorem FSt.xf (h : FSt B m X w0 w c v ts) (k : Nat) : w.frozen? ⟨X, k, none⟩ = false := by simp [World.frozen?, h.box]
theorem FSt.r0 (h : FSt B m X w0 w c v ts) : w.cell? ⟨w0.heap.size, 0, none⟩ = some (.int .i64 0) := by simp [World.cell?, h.res]
theorem FSt.r1 (h : FSt B m X w0 w c v ts) : w.cell? ⟨w0.heap.size, 1, none⟩ = some (.slice none 0 0) := by simp [World.cell?, h.res]
theorem FSt.rf (h : FSt B m X w0 w c v ts) (k : Nat) : w.frozen? ⟨w0.heap.size, k, none⟩ = false := by simp [World.frozen?, h.res]
theorem FSt.draw (h : FSt B m X w0 w c v ts) (hd : Drawn B m' w w') : FSt B m' X w0 w' c v ts := by
  have hl := h.lt
  have hx := h.newX
  exact ⟨hl, h.drawn.trans hd, heap_keep h.box hd.1 (by simp; omega), heap_keep h.res hd.1 (by simp; omega), hx, World.ownsRow.kept h.row hd.1 (own_ne h.row (by omega)), h.ne, h.good⟩
theorem FSt.setc (h : FSt B m X w0 w c v ts) (c' : Int) : FSt B m X w0 (w.setCell ⟨X, 0, none⟩ (.int .i64 c')) c' v ts := by
  have hl := h.lt
  have hx := h.newX
  have hg : w.grownBy (w.setCell ⟨X, 0, none⟩ (.int .i64 c')) (some X) := grown_set w _ _ _
  refine ⟨hl, h.drawn.own hg hl (fun k hk => by cases hk; omega), ?_, heap_keep h.res hg (by simp; omega), hx, World.ownsRow.kept h.row hg ?_, h.ne, h.good⟩
  · show (w.heap.modify X _)[X]? = _
    rw [Array.getElem?_modify, if_pos rfl, h.box]
    simp
  · refine .inr fun e => h.ne _ e rfl
theorem FSt.turned (h : FSt B m X w0 w c v ts) {us : List TermD} {g : Nat} (hv : v.ownBlock = some g) (hr : TermRow w' (w0.heap.size + 1) v us) (hg : w.grownBy w' (some g)) (hm : ∀ t ∈ us, t ∈ ts) : FSt B m X w0 w' c v us := by
  have hl := h.lt
  have hx := h.newX
  have hgl := (World.ownsRow.lt h.row g hv).1
  have hne := h.ne g hv
  exact ⟨hl, h.drawn.own hg hl (fun k hk => by cases hk; omega), heap_keep h.box hg (by simp; omega), heap_keep h.res hg (by simp; omega), hx, hr, h.ne, fun t ht => h.good t (hm t ht)⟩
def AnyFormOf (B m : Nat) (w : World) (e : Ending) (w' : World) : Prop :=
  ∃ c p n cap ts, e = .returned (.agg #[.int .i64 c, .slice p n cap]) ∧ ts.length = n ∧ n ≤ 3 ∧ small c ∧ TermRow w' w.heap.size (.slice p n cap) ts ∧ (∀ t ∈ ts, goodTerm t) ∧ Drawn B m w w'
theorem FSt.finish {M : Nat} {p : Option Addr} {n cap : Nat} (h : FSt B m X w0 w c (.slice p n cap) ts) (hc : small c) (hn : n ≤ 3) (hm : m ≤ M) :
    ((w.setCell ⟨w0.heap.size, 0, none⟩ (.int .i64 c)).setCell ⟨w0.heap.size, 1, none⟩ (.slice p n cap)).heap[w0.heap.size]? = some (.cells #[.int .i64 c, .slice p n cap] 28 (0, 0)) ∧
    AnyFormOf B M w0 (.returned (.agg #[.int .i64 c, .slice p n cap])) ((w.setCell ⟨w0.heap.size, 0, none⟩ (.int .i64 c)).setCell ⟨w0.heap.size, 1, none⟩ (.slice p n cap)) := by
  obtain ⟨q1, q2⟩ := two_stored h.res (.int .i64 c) (.slice p n cap)
  refine ⟨q1, c, p, n, cap, ts, rfl, ?_, hn, hc, owns_lower (h.row.other q2 (by omega)) (by omega), h.good, (h.drawn.own q2 h.lt (fun k hk => by cases hk; exact Nat.le_refl _)).more hm⟩
  obtain ⟨p', c', e⟩ := own_form h.row
  cases e
  rfl
theorem start_box (w0 : World) (hs : StreamAt w0 B m) : Drawn B m w0 (w0.alloc (.cells #[.int .i64 0, .slice none 0 0] 28)) ∧ (w0.alloc (.cells #[.int .i64 0, .slice none 0 0] 28)).heap[w0.heap.size]? = some (.cells #[.int .i64 0, .slice none 0 0] 28 (0, 0)) :=
  ⟨⟨World.grownBy_alloc _ _ _, stream_alloc hs _⟩, heap_alloc_new _ _⟩
/-- What stands when the form's numbers are drawn. -/
theorem form_start {w3 w4 : World} {p : Option Addr} {n cap : Nat} {us : List TermD} {o : Obj} {y z : Int} (hB : B < w0.heap.size) (hd : Drawn B m w0 w3) (hr : w3.heap[w0.heap.size]? = some (.cells #[.int .i64 0, .slice none 0 0] 28 (0, 0)))
    (ho : TermRow w4 (w3.alloc o).heap.size (.slice p n cap) us) (hg : (w3.alloc o).grownBy w4 none) (hm : ∀ t ∈ us, t ∈ [(strI, y), (strJ, z)]) (hy : small y) (hz : small z) :
    FSt B m w4.heap.size w0 (w4.alloc (.cells #[.int .i64 c, .slice p n cap] 28)) c (.slice p n cap) us := by
  have h3 := hd.1.size
  have h4 := hg.size
  simp at h4
  have hgw : w3.grownBy (w4.alloc (.cells #[.int .i64 c, .slice p n cap] 28)) none := grownBy_trans (World.grownBy_alloc _ _ _) (grownBy_trans hg (World.grownBy_alloc _ _ _))
  have hlt := (Array.getElem?_eq_some_iff.1 hr).1
  refine ⟨hB, hd.grown hgw, heap_alloc_new _ _, heap_keep hr hgw (by simp), by omega, owns_lower (World.ownsRow.alloc ho _) (by simp; omega), fun k hk => ?_, fun t ht => ?_⟩
  · have := (World.ownsRow.lt ho k hk).2
    omega
  · rcases List.mem_cons.1 (hm t ht) with rfl | ht
    · exact ⟨(by decide : strI.size ≤ 100), hy⟩
    · obtain rfl := List.mem_singleton.1 ht
      exact ⟨(by decide : strJ.size ≤ 100), hz⟩
theorem TermRow.own {p : Option Addr} {n cap P : Nat} (h : TermRow w P (.slice p n cap) ts) : ts.length = n ∧ w.ownsRow P 54 2 (.slice p n cap) n (ts.flatMap termCells) := by
  obtain ⟨p', c', e⟩ := own_form h
  cases e
  exact ⟨rfl, h⟩
theorem FSt.pushed {g g' n cap ncap : Nat} {w4 : World} {o : Obj} {t : TermD} (h : FSt B m X w0 w c (.slice (some ⟨g, 0, none⟩) n cap) ts) (hg : (w.alloc o).grownBy w4 (some g))
    (ho : w4.ownsRow (w0.heap.size + 1) 54 2 (.slice (some ⟨g', 0, none⟩) (n + 1) ncap) (n + 1) (ts.flatMap termCells ++ termCells t)) (hat : g = g' ∨ g' = w.heap.size + 1) (ht : goodTerm t) :
    w4.heap[X]? = some (.cells #[.int .i64 c, .slice (some ⟨g, 0, none⟩) n cap] 28 (0, 0)) ∧ FSt B m X w0 (w4.setCell ⟨X, 1, none⟩ (.slice (some ⟨g', 0, none⟩) (n + 1) ncap)) c (.slice (some ⟨g', 0, none⟩) (n + 1) ncap) (ts ++ [t]) := by
  have hl := h.lt
  have hx := h.newX
  have hs := h.size
  have hgl := (World.ownsRow.lt h.row g rfl).1
  have hne := h.ne g rfl
  have hn := h.row.own.1
  have hwg : w.grownBy w4 (some g) := grownBy_trans (World.grownBy_alloc _ _ _) hg
  have hb := heap_keep h.box hwg (by simp; omega)
  have hg2 : w4.grownBy (w4.setCell ⟨X, 1, none⟩ (.slice (some ⟨g', 0, none⟩) (n + 1) ncap)) (some X) := grown_set w4 _ _ _
  refine ⟨hb, hl, (h.drawn.own hwg hl (fun k hk => by cases hk; omega)).own hg2 hl (fun k hk => by cases hk; omega), ?_, heap_keep (heap_keep h.res hwg (by simp; omega)) hg2 (by simp; omega), hx, ?_, fun k hk => ?_, fun u hu => ?_⟩
  · show (w4.heap.modify X _)[X]? = _
    rw [Array.getElem?_modify, if_pos rfl, hb]
    simp
  · have hr := ho.kept hg2 (.inr fun e => by
      have e := Option.some.inj e
      simp only at e
      omega)
    unfold TermRow
    rw [List.flatMap_append, List.length_append, hn]
    simpa using hr
  · cases hk
    simp only
    omega
  · rcases List.mem_append.1 hu with hu | hu
    · exact h.good u hu
    · obtain rfl := List.mem_singleton.1 hu
      exact ht
set_option maxRecDepth 100000 in
set_option maxHeartbeats 40000000 in
theorem anyForm_any (B m : Nat) (w : World) (hs : StreamAt w B m) (hm : m ≤ 1000000) :
    Calls Tryz.prog 4 #[.pointer (some ⟨B, 0, none⟩)] w (AnyFormOf B (m + 10) w) := by
  have hB := hs.lt
  have HS := Lib.hid (start_box w hs)
  clear hs
  go_enter Tryz.func4, Tryz.ntmps4
  go_wp2_with (first
    | (go_at_call 6; first
        | (refine (pick_lit' B m (w.heap.size + 1) [0, 1, -3, 4, 6] _ (w.alloc (.cells #[.int .i64 0, .slice none 0 0] 28)) (by simp) HS.out.1.2 (by omega) (by simp) (by simp)).mono ?_; rintro e w1 ⟨z1, hz1, rfl, hd⟩; have HD1 := Lib.hid (HS.out.1.trans hd); have HR1 := Lib.hid (heap_keep HS.out.2 hd.1 (by simp; omega)); have HZ1 := Lib.hid (show small z1 by simp at hz1; unfold small; omega); clear hd hz1 HS)
        | (refine (pick_lit' B (m + 1) w1.heap.size [0, 1, 2, -4, 6] _ w1 rfl HD1.out.2 (by omega) (by simp) (by simp)).mono ?_; rintro e w2 ⟨z2, hz2, rfl, hd⟩; have HD2 := Lib.hid (HD1.out.trans hd); have HR2 := Lib.hid (heap_keep HR1.out hd.1 (by simp; omega)); have HZ2 := Lib.hid (show small z2 by simp at hz2; unfold small; omega); clear hd hz2 HD1 HR1)
        | (refine (pick_lit' B (m + 1 + 1) w2.heap.size [0, 0, 2, 3, -6] _ w2 rfl HD2.out.2 (by omega) (by simp) (by simp)).mono ?_; rintro e w3 ⟨z3, hz3, rfl, hd⟩; have HD3 := Lib.hid (HD2.out.trans hd); have HR3 := Lib.hid (heap_keep HR2.out hd.1 (by simp; omega)); have HZ3 := Lib.hid (show small z3 by simp at hz3; unfold small; omega); clear hd hz3 HD2 HR2))
    | (go_at_call 21; go_must (refine (form_any z1 w3.heap.size 0 2 [(strI, z2), (strJ, z3)] _ (by simp) (by simp) (fun j u hj => by rw [Nat.zero_add]; simp only [List.flatMap_cons, List.flatMap_nil, termCells, List.cons_append, List.nil_append, List.append_nil] at hj; simp [strI, strJ] at hj ⊢; exact hj)).mono ?_; rintro e w4 ⟨n, cap, us, g, rfl, hn, hle, ho, hmm, hg⟩; have hn3 : n ≤ 2 := hle; have HF := Lib.hid (form_start (c := z1) hB HD3.out HR3.out ho hg hmm HZ2.out HZ3.out); have x0 := HF.out.x0; have x1 := HF.out.x1; have xf := HF.out.xf; have r0 := HF.out.r0; have r1 := HF.out.r1; have rf := HF.out.rf; clear ho hmm hg hn hle)))
  have hgX : g ≠ w4.heap.size := HF.out.ne g rfl
  generalize w4.heap.size = X at *
  generalize w4.alloc (.cells #[.int .i64 z1, .slice (some ⟨g, 0, none⟩) n cap] 28) = wB at *
  refine (flip_any B (m + 1 + 1 + 1) 15 wB HF.out.drawn.2 (by omega) (by omega) (by omega)).mono ?_
  rintro e w5 ⟨b, rfl, hd⟩
  have HF5 := Lib.hid (HF.out.draw hd)
  clear hd HF x0 x1 xf r0 r1 rf HD3 HR3 HZ2 HZ3
  have x0 := HF5.out.x0; have x1 := HF5.out.x1; have xf := HF5.out.xf; have r0 := HF5.out.r0; have r1 := HF5.out.r1; have rf := HF5.out.rf
  cases b
  · go_wp2
    obtain ⟨f1, f2⟩ := HF5.out.finish (M := m + 10) HZ1.out (by omega) (by omega)
    exact bodyPost_ret (results_cell_row rfl _ _ w.heap.size _ _ _ _ rfl f1 Tryz.underlying28 rfl Tryz.infoFormD) rfl f2
  · go_wp2_with (first
      | (go_at_call 23; go_must (refine (next_any B (m + 1 + 1 + 1 + 1) 3 w5 HF5.out.drawn.2 (by omega) (by omega) (by omega)).mono ?_; rintro e w6 ⟨k, hk0, hk1, rfl, hd⟩; have HF6 := Lib.hid (HF5.out.draw hd); clear hd HF5 x0 x1 xf r0 r1 rf; have x0 := HF6.out.x0; have x1 := HF6.out.x1; have xf := HF6.out.xf; have r0 := HF6.out.r0; have r1 := HF6.out.r1; have rf := HF6.out.rf; rcases (show k = 0 ∨ k = 1 ∨ k = 2 by omega) with rfl | rfl | rfl))
      | (go_at_call 6; go_must (refine (pick_lit' B (m + 1 + 1 + 1 + 1 + 1) w6.heap.size [1000001, -1000000] _ w6 rfl HF6.out.drawn.2 (by omega) (by simp) (by simp)).mono ?_; rintro e w7 ⟨z, hz, rfl, hd⟩; have HF7 := Lib.hid (HF6.out.draw hd); have HZ := Lib.hid (show small z by simp at hz; unfold small; omega); clear hd hz HF6 x0 x1 xf r0 r1 rf; have x0 := HF7.out.x0; have x1 := HF7.out.x1; have xf := HF7.out.xf; have r0 := HF7.out.r0; have r1 := HF7.out.r1; have rf := HF7.out.rf; have HF8 := Lib.hid (HF7.out.setc z); have y0 := HF8.out.x0; have y1 := HF8.out.x1; have yf := HF8.out.xf; have s0 := HF8.out.r0; have s1 := HF8.out.r1; have sf := HF8.out.rf))
      | (go_at_call 24; go_must (refine (reverseTerm_any _ g n cap us w6 (by have := HF6.out.row.free.1; omega) HF6.out.row).mono ?_; rintro e w7 ⟨rfl, us2, hl2, hm2, ho2, hg2⟩; have HF7 := Lib.hid (HF6.out.turned rfl ho2 hg2 hm2); clear hl2 hm2 ho2 hg2 HF6 x0 x1 xf r0 r1 rf; have x0 := HF7.out.x0; have x1 := HF7.out.x1; have xf := HF7.out.xf; have r0 := HF7.out.r0; have r1 := HF7.out.r1; have rf := HF7.out.rf)))
    · obtain ⟨f1, f2⟩ := HF8.out.finish (M := m + 10) HZ.out (by omega) (by omega)
      exact bodyPost_ret (results_cell_row rfl _ _ w.heap.size _ _ _ _ rfl f1 Tryz.underlying28 rfl Tryz.infoFormD) rfl f2
    · as_aux_lemma =>
      obtain ⟨i0, hi, hz0, hz1, hz2⟩ := info_parts Tryz.infoTerm
      have hX6 := HF6.out.size
      have hwX := HF6.out.newX
      have xs6 := (World.grownBy_alloc w6 (.cells #[.string ⟨#[97]⟩, .string ⟨#[122]⟩, .string ⟨#[]⟩, .string ⟨#[102, 111, 114]⟩] 9) none).cell x1 (by simp)
      have xi6 := (World.grownBy_alloc w6 (.cells #[.int .i64 0, .int .i64 1, .int .i64 1001] 3) none).cell x1 (by simp)
      have xsi6 := (World.grownBy_alloc _ (.cells #[.int .i64 0, .int .i64 1, .int .i64 1001] 3) none).cell xs6 (by simp)
      have xis6 := (World.grownBy_alloc _ (.cells #[.string ⟨#[97]⟩, .string ⟨#[122]⟩, .string ⟨#[]⟩, .string ⟨#[102, 111, 114]⟩] 9) none).cell xi6 (by simp)
      go_region_law (first
        | (go_simp; go_at_call 7; go_must (refine (some_from B (m + 1 + 1 + 1 + 1 + 1) _ [⟨#[97]⟩, ⟨#[122]⟩, ⟨#[]⟩, ⟨#[102, 111, 114]⟩] w6 _ (by first | exact grown_a2 _ _ _ | exact grown_a1 _ _ | exact grown_drew _ _ | exact World.grownBy_alloc _ _ _ | exact grownBy_refl _ _) HF6.out.drawn.2 (by omega) (by simp; omega) (by simp) (by simp) (fun j hj => by rcases (show j = 0 ∨ j = 1 ∨ j = 2 ∨ j = 3 by simp at hj; omega) with rfl | rfl | rfl | rfl <;> simp)).mono ?_; rintro e wS ⟨zs, hz, rfl, hd, hd2⟩; have HFS := Lib.hid (HF6.out.draw hd); have sx1 := HFS.out.x1; have sxi := (World.grownBy_alloc wS (.cells #[.int .i64 0, .int .i64 1, .int .i64 1001] 3) none).cell sx1 (by simp); have HZs := Lib.hid (show zs.size ≤ 100 by simp at hz; rcases hz with rfl | rfl | rfl | rfl <;> decide); have hszS := hd.1.size; have HKS := Lib.hid hd2; clear hd hz hd2))
        | (go_simp; go_at_call 6; go_must (refine (pick_from B (m + 1 + 1 + 1 + 1 + 1 + 1) _ [0, 1, 1001] wS _ (by first | exact grownBy_refl _ _ | exact World.grownBy_alloc _ _ _ | exact grown_a1 _ _ | exact grown_drew _ _) HFS.out.drawn.2 (by omega) (by simp; omega) (by simp) (by simp) (fun j hj => by rcases (show j = 0 ∨ j = 1 ∨ j = 2 by simp at hj; omega) with rfl | rfl | rfl <;> first | (simp; done) | exact HKS.out.cell (by simp) (by simp; omega))).mono ?_; rintro e wP ⟨z, hz, rfl, hd, _⟩; have HFP := Lib.hid (HFS.out.draw hd); have px1 := HFP.out.x1; have HZ2 := Lib.hid (show small z by simp at hz; unfold small; omega); have hszP := hd.1.size; have px1t := (World.grownBy_alloc wP (.cells #[.string zs, .int .i64 z] 54) none).cell px1 (by simp); clear hd hz))
        | (refine step_append_lies _ (by rfl) _ _ 26 (by rfl) (w.heap.size + 1) 54 i0 (.agg #[.string ByteArray.empty, .int .i64 0]) 2 24 Tryz.underlying26 hi hz0 hz1 hz2 (by rfl) (by decide) (.slice (some ⟨g, 0, none⟩) n cap) n (us.flatMap termCells) (by rfl) (World.ownsRow.alloc HFP.out.row.own.2 _) ⟨wP.heap.size, 0, none⟩ 1 1 (termCells (zs, z)) (by rfl) (by rfl) news_at (by simp [termCells, Value.oneCell']) (by decide) (by unfold maxLen; omega) (by omega) (by simp; omega) (wP.heap.size + 1) (by simp) ?_; intro g' ncap w4' hown4 hgrow4 hat _; have HPu := Lib.hid (HFP.out.pushed (t := (zs, z)) hgrow4 hown4 (by rcases hat with h | h; exact .inl (Option.some.inj h); exact .inr (by omega)) ⟨HZs.out, HZ2.out⟩); have hb4 := HPu.out.1; have b4 : w4'.cell? ⟨X, 1, none⟩ = some (.slice (some ⟨g, 0, none⟩) n cap) := (by simp [World.cell?, hb4]); have b4f : w4'.frozen? ⟨X, 1, none⟩ = false := (by simp [World.frozen?, hb4]); have HF8 := Lib.hid HPu.out.2; have y0 := HF8.out.x0; have y1 := HF8.out.x1; have yf := HF8.out.xf; have s0 := HF8.out.r0; have s1 := HF8.out.r1; have sf := HF8.out.rf; clear hown4 hgrow4 hat hb4 HPu))
      all_goals
        go_wp2_with (fail)
        obtain ⟨f1, f2⟩ := HF8.out.finish (M := m + 10) HZ1.out (by omega) (by omega)
        exact bodyPost_ret (results_cell_row rfl _ _ w.heap.size _ _ _ _ rfl f1 Tryz.underlying28 rfl Tryz.infoFormD) rfl f2
    · obtain ⟨f1, f2⟩ := HF7.out.finish (M := m + 10) HZ1.out (by omega) (by omega)
      exact bodyPost_ret (results_cell_row rfl _ _ w.heap.size _ _ _ _ rfl f1 Tryz.underlying28 rfl Tryz.infoFormD) rfl f2
end Go.Proofs.YtblpknkgjkbacaaGreatDoor
