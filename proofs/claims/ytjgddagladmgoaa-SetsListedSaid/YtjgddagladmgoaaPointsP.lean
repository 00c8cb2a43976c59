/-
 Points.
-/
import Derived.Test.YtjgddagladmgoaaEachP
import Derived.Test.YtjgddagladmgoaaGo2
import Derived.Test.YtjgddagladmgoaaPoints
import Derived.Test.YtjgddagladmgoaaLeast
namespace Go.Proofs.Ytjgddagladmgoaa
open Go.RowKit
attribute [local go_sem ↓] Go.wp_at_zero Go.wp_at_succ

/-- What the visits of Points have made: a row of points of their own, in the variable's block. -/
def ListInv (V Bb : Nat) (d : List (List Int)) (w : World) : Prop :=
  ∃ ov vs, w.heap[V]? = some (.cells #[ov] 38 (0, 0)) ∧ w.ownsRow (Bb + 1) 22 1 ov d.length vs ∧ RowsAre w (Bb + 1) ov.ownBlock vs d

def goRoom (d : List (List Int)) : Bool := decide (d.length ≤ 5000)

theorem list_steady {V Bb : Nat} (h : V < Bb) : Steady Bb (ListInv V Bb) := by
  rintro d w w' ⟨ov, vs, h1, h2, h3⟩ hg
  refine ⟨ov, vs, heap_keep h1 hg (by simp; omega), h2.kept hg ?_, h3.kept hg (.inr fun k hk => by cases hk; omega)⟩
  cases hb : ov.ownBlock with
  | none => exact .inl rfl
  | some g =>
    refine .inr fun e => ?_
    have := (h2.lt g hb).1
    have := Option.some.inj e
    omega

theorem list_push {w w1 w2 : World} {V P : Nat} {ov rp : Value} {d : List (List Int)} {pt : List Int} {vs : List Value} {o x : Obj} {g cap : Nat} (hx : w.heap[V]? = some x) (h2 : w.ownsRow P 22 1 ov d.length vs) (h3 : RowsAre w P ov.ownBlock vs d)
    (k1 : w.grownBy w1 none) (hrv : w1.ownsRow P 3 1 rp pt.length (pt.map (Value.int .i64))) (hrn : ∀ b, rp.ownBlock = some b → w.heap.size ≤ b) (k2' : (w1.alloc o).grownBy w2 ov.ownBlock)
    (ho : w2.ownsRow P 22 1 (.slice (some ⟨g, 0, none⟩) (d.length + 1) cap) (d.length + 1) (vs ++ [rp])) (hg' : ov.ownBlock = some g ∨ g = w1.heap.size + 1) (hV : V < P) :
    w2.heap[V]? = some x ∧ (w2.setCell ⟨V, 0, none⟩ (.slice (some ⟨g, 0, none⟩) (d.length + 1) cap)).ownsRow P 22 1 (.slice (some ⟨g, 0, none⟩) (d.length + 1) cap) (d.length + 1) (vs ++ [rp]) ∧
      RowsAre (w2.setCell ⟨V, 0, none⟩ (.slice (some ⟨g, 0, none⟩) (d.length + 1) cap)) P (some g) (vs ++ [rp]) (d ++ [pt]) := by
  have k2 : w1.grownBy w2 ov.ownBlock := grownBy_trans (World.grownBy_alloc _ _ _) k2'
  have hg : ov.ownBlock = some g ∨ w1.heap.size ≤ g := by rcases hg' with h | h; exact .inl h; exact .inr (by omega)
  have k3 := grown_set w2 V 0 (.slice (some ⟨g, 0, none⟩) (d.length + 1) cap)
  generalize w2.setCell ⟨V, 0, none⟩ (.slice (some ⟨g, 0, none⟩) (d.length + 1) cap) = w3 at *
  have hob : ∀ k, ov.ownBlock = some k → P ≤ k ∧ k < w.heap.size := h2.lt
  have hgv : (Value.slice (some ⟨g, 0, none⟩) (d.length + 1) cap).ownBlock = some g := rfl
  refine ⟨heap_keep (heap_keep hx k1 (by simp)) k2 (fun e => by have := hob _ e; omega), ?_, ?_⟩
  · refine ho.kept k3 (.inr fun e => ?_)
    rw [hgv] at e
    have := (ho.lt g hgv).1
    have := Option.some.inj e
    omega
  · have hk : ∀ (r : Value) (p : List Int), w1.ownsRow P 3 1 r p.length (p.map (Value.int .i64)) → (r.ownBlock = none ∨ r.ownBlock ≠ ov.ownBlock) → w3.ownsRow P 3 1 r p.length (p.map (Value.int .i64)) := fun r p hr hn => by
      refine (hr.kept k2 hn).kept k3 ?_
      cases hb : r.ownBlock with
      | none => exact .inl rfl
      | some b =>
        refine .inr fun e => ?_
        have := (hr.lt b hb).1
        have := Option.some.inj e
        omega
    refine ⟨by simp [h3.1], fun j p hj => ?_⟩
    by_cases hj' : j < d.length
    · rw [List.getElem?_append_left hj'] at hj
      obtain ⟨r, r1, r2, r3⟩ := h3.2 j p hj
      refine ⟨r, by rw [List.getElem?_append_left (by rw [h3.1]; exact hj')]; exact r1, hk r p (owns_kept r2 k1) r3, ?_⟩
      cases hb : r.ownBlock with
      | none => exact .inl rfl
      | some b =>
        refine .inr fun e => ?_
        have e := Option.some.inj e
        rcases hg with hg | hg
        · rcases r3 with r3 | r3
          · rw [hb] at r3; cases r3
          · exact r3 (by rw [hb, hg, e])
        · have := (r2.lt b hb).2
          have := k1.size
          omega
    · have hj2 : j = d.length := by
        have := (List.getElem?_eq_some_iff.1 hj).1
        simp at this
        omega
      subst hj2
      simp at hj
      subst hj
      refine ⟨rp, by rw [← h3.1]; simp, hk rp pt hrv ?_, ?_⟩
      · cases hb : rp.ownBlock with
        | none => exact .inl rfl
        | some b =>
          refine .inr fun e => ?_
          have := hrn b hb
          have := hob b e.symm
          omega
      · cases hb : rp.ownBlock with
        | none => exact .inl rfl
        | some b =>
          refine .inr fun e => ?_
          have e := Option.some.inj e
          have h5 := hrn b hb
          have h6 := (hrv.lt b hb).2
          rcases hg with hg | hg
          · have := hob g hg
            omega
          · omega

set_option maxRecDepth 100000 in
set_option maxHeartbeats 2000000 in
theorem list_visit {wE : World} {V Bb n : Nat} (hV : V < wE.heap.size) (hn : n ≤ 1000) : VisitOkP wE V (V + 1) Bb n (ListInv V Bb) goRoom := by
  intro d pt w h hb hd
  have hlo := h.lo
  obtain ⟨ov, vs, h1, h2, h3⟩ := h.inv
  have hl := h.len
  subst hl
  have hBb : Bb < w.heap.size := (Array.getElem?_eq_some_iff.1 h.buf).1
  have hov : w.cell? ⟨V, 0, none⟩ = some ov := by simp [World.cell?, h1]
  obtain ⟨po, ocap, rfl⟩ := own_form h2
  have HCl := Lib.hid (fun W (hg : w.grownBy W none) => clone_any Bb 0 pt.length pt W hn (fun j x hj => by
    obtain ⟨hj1, rfl⟩ := List.getElem?_eq_some_iff.1 hj
    exact hg.cell (a := ⟨Bb, 0 + j, none⟩) (by simp [World.cell?, h.buf, hj1]) (by simp)))
  have H1 := Lib.hid h1
  have H2 := Lib.hid h2
  have H3 := Lib.hid h3
  have HS := Lib.hid h
  have HD := Lib.hid hd
  clear h hb h1 h2 h3 hd
  obtain ⟨dl, hdl⟩ : ∃ dl, d.length = dl := ⟨_, rfl⟩
  have HDl := Lib.hid hdl
  have hdl9 : dl ≤ 900000 := by have := HD.out; omega
  rw [hdl] at H2 hov
  obtain ⟨i0, hi, hz0, hz1, hz2⟩ := info_parts Try.infoInts
  have HGo := Lib.hid (show goRoom (d ++ [pt]) = decide (dl + 1 ≤ 5000) by simp [goRoom, hdl])
  clear hdl
  go_enter Try.func34, Try.ntmps34
  go_wp2
  go_region_law (first
    | (go_simp; go_at_call 35; go_must (refine (HCl.out _ ?hg).mono ?_; (case hg => (first | exact grownBy_refl _ _ | exact grown_d _ _)); rintro e w1 ⟨rv, rfl, ho, hg1⟩; have hgw : w.grownBy w1 none := (by first | exact hg1 | exact grownBy_trans (grown_d _ _) hg1); obtain ⟨rp, rcap, rfl⟩ := own_form ho; have KO := Lib.hid (owns_low (base' := Bb + 1) ho (by simp; omega)); have KB := Lib.hid (fun b (hb : (Value.slice rp pt.length rcap).ownBlock = some b) => show w.heap.size ≤ b from (ho.lt b hb).1); have K1 := Lib.hid hgw; have c1 := hgw.cell hov (by simp); have c1' : (w1.alloc (.cells #[.slice rp pt.length rcap] 22)).cell? ⟨V, 0, none⟩ = some (.slice po dl ocap) := (World.grownBy_alloc _ _ none).cell c1 (by simp); have hs1 := hgw.size; clear ho hg1 hgw))
    | (refine step_append_lies _ (by rfl) _ _ 38 (by rfl) (Bb + 1) 22 i0 (.slice none 0 0) 1 24 Try.underlying38 hi hz0 hz1 hz2 (by rfl) (by decide) (.slice po dl ocap) dl vs (by rfl) (World.ownsRow.alloc (owns_kept H2.out K1.out) _) ⟨w1.heap.size, 0, none⟩ 1 1 [.slice rp pt.length rcap] (by rfl) (by rfl) news_at (by intro u hu; obtain rfl := List.mem_singleton.1 hu; rfl) (by decide) (by unfold maxLen; omega) (by omega) (by simp; omega) (w1.heap.size + 1) (by simp) ?_; intro g ncap w2 hown2 hgrow2 hat _; have hb2 := heap_keep (heap_keep H1.out (grownBy_trans K1.out (World.grownBy_alloc w1 (.cells #[.slice rp pt.length rcap] 22) none)) (by simp)) hgrow2 (fun e => by have := (H2.out.lt _ e).1; omega); have c3 : w2.cell? ⟨V, 0, none⟩ = some (.slice po d.length ocap) := (by simp [World.cell?, hb2]); have f3 : w2.frozen? ⟨V, 0, none⟩ = false := (by simp [World.frozen?, hb2]); have B2 := Lib.hid hb2; have O2 := Lib.hid hown2; have G2 := Lib.hid hgrow2; have A2 := Lib.hid hat; clear hb2 hown2 hgrow2 hat))
  all_goals
    go_wp2
    go_ret
    obtain rfl := HDl.out
    have hg := grown_set w2 V 0 (.slice (some ⟨g, 0, none⟩) (d.length + 1) ncap)
    have hlt := fun k hk => (H2.out.lt k hk).1
    obtain ⟨p1, p2, p3⟩ := list_push (o := .cells #[.slice rp pt.length rcap] 22) H1.out H2.out H3.out K1.out KO.out KB.out G2.out O2.out A2.out (by omega)
    refine ⟨ret_bool (by rw [HGo.out]; exact decide_eq_decide.2 (by omega)), (((HS.out.framed.grown K1.out).grown (World.grownBy_alloc _ _ _)).more G2.out (fun k hk => .inl (by have := hlt k hk; omega))).more hg (fun k hk => by cases hk; exact .inr ⟨Nat.le_refl _, by omega⟩), HS.out.lo, HS.out.hi, ?_, rfl, .slice (some ⟨g, 0, none⟩) (d.length + 1) ncap, vs ++ [Value.slice rp pt.length rcap], ?_, ?_, ?_⟩
    · exact heap_keep (heap_keep (heap_keep HS.out.buf (grownBy_trans K1.out (World.grownBy_alloc w1 (.cells #[.slice rp pt.length rcap] 22) none)) (by simp)) G2.out (fun e => by have := hlt _ e; omega)) hg (by simp; omega)
    · show (w2.heap.modify V _)[V]? = _
      rw [Array.getElem?_modify, if_pos rfl, B2.out]
      simp
    · simpa using p2
    · exact p3

def pointsErr (S : List SideD × List CondD) : Int := if setErr S == 0 then (if 5000 < (pointsFrom S [] S.1).length then 12 else 0) else setErr S
def pointsOf (S : List SideD × List CondD) : List (List Int) := if pointsErr S == 0 then pointsFrom S [] S.1 else []

theorem walkP_room : ∀ (ps d : List (List Int)), d.length ≤ 5000 → walkP goRoom d ps = if d.length + ps.length ≤ 5000 then (d ++ ps, true) else ((d ++ ps).take 5001, false)
  | [], d, h => by simp [walkP, h]
  | p :: r, d, h => by
    simp only [walkP]
    by_cases h1 : d.length + 1 ≤ 5000
    · have e : goRoom (d ++ [p]) = true := by simp [goRoom]; omega
      rw [if_pos e, walkP_room r (d ++ [p]) (by simp; omega)]
      have h3 : (d ++ [p]).length + r.length = d.length + (p :: r).length := by simp; omega
      rw [h3, List.append_assoc]
      rfl
    · have e : goRoom (d ++ [p]) = false := by simp [goRoom]; omega
      rw [e, if_neg (by simp), if_neg (by simp; omega)]
      have hd : d.length = 5000 := by omega
      congr 1
      rw [show d ++ p :: r = (d ++ [p]) ++ r by simp, List.take_left' (by simp [hd])]

/-- What Points gives. -/
def ListPost (ps : List (List Int)) (err : Int) (w : World) (e : Ending) (w' : World) : Prop :=
  ∃ v, e = .returned (.tuple #[v, .int .i64 err]) ∧ RowsAt w' v ps ∧ w.grownBy w' none

theorem rows_nil (w : World) : RowsAt w (.slice none 0 0) [] := ⟨none, 0, rfl, by simp, fun j x hj => by simp at hj⟩

theorem points_lens {S : List SideD × List CondD} (h : setErr S = 0) : (∀ pt ∈ pointsFrom S [] S.1, pt.length ≤ 1000000) ∧ ∀ pt ∈ pointsFrom S [] S.1, ∀ x ∈ pt, -9223372036854775808 ≤ x ∧ x ≤ 9223372036854775807 := by
  have hp := points_good S S.1 [] (fun s hs => (sides_good [] (set_good h).2.1 s hs).2) (fun x hx => by cases hx)
  have h8 := (set_good h).1
  exact ⟨fun pt hpt => by have := (hp pt hpt).1; simp at this; omega, fun pt hpt x hx => by have := (hp pt hpt).2 x hx; omega⟩

set_option maxHeartbeats 2000000 in
theorem points_any (S : List SideD × List CondD) (sv cv : Value) (w : World) (hS : SetAt w sv cv S) :
    Calls Try.prog 9 #[.agg #[sv, cv]] w (ListPost (pointsOf S) (pointsErr S) w) := by
  obtain ⟨⟨p, cap, rfl, ⟨hsl, hscc⟩, hsc⟩, ⟨pc, ccap, rfl, hcl, hcc⟩⟩ := id hS
  have HS := Lib.hid hS
  clear hS hsc hcc
  by_cases hE : setErr S = 0
  · have hE0 : (setErr S != 0) = false := by simp [hE]
    have hn8 := (set_good hE).1
    have HE := Lib.hid hE
    have HEr := Lib.hid (show pointsErr S = if 5000 < (pointsFrom S [] S.1).length then 12 else 0 by simp [pointsErr, hE])
    clear hE
    by_cases hfull : (pointsFrom S [] S.1).length ≤ 5000
    · have HW := Lib.hid (show walkP goRoom [] (pointsFrom S [] S.1) = (pointsFrom S [] S.1, true) by rw [walkP_room _ [] (by simp), if_pos (by simpa using hfull)]; simp)
      have HFull := Lib.hid hfull
      clear hfull
      go_enter Try.func9, Try.ntmps9
      go_wp2_with (first
        | (go_at_call 30; go_must (refine (spaceOf_any S _ _ _ (HS.out.kept (World.grownBy_alloc _ _ _))).mono ?_; rintro e w1 ⟨hg1, _, hk0⟩; obtain ⟨kv, rfl, hk1⟩ := hk0 HE.out; clear hk0; obtain ⟨pk, kcap, rfl, hkl, hkc⟩ := id hk1; have G1 := Lib.hid hg1; have K1 := Lib.hid hk1; have HC := Lib.hid (fun (W : World) (hp : w1.grownBy W none) (V : Nat) (hV : w1.heap.size ≤ V) (hV2 : V + 1 = W.heap.size) (h0 : W.heap[V]? = some (.cells #[.slice none 0 0] 38 (0, 0))) => eachP_any S (.slice p S.1.length cap) (.slice pk (rowsOf S).length kcap) V (V + 1) (ListInv V) goRoom w1 W (HS.out.1.kept (grownBy_trans (World.grownBy_alloc _ _ _) hg1)) hk1 HE.out hp hV (by omega) (fun _ => ⟨_, [], h0, World.ownsRow_nil _ _ _ _, rfl, fun j pt hj => by simp at hj⟩) (fun Bb hB => list_steady (by omega)) (fun wE Bb hg hB => list_visit (by have := hg.size; omega) (by omega))); have h0 : ((w1.alloc (.cells #[.slice p S.1.length cap, .slice pk (rowsOf S).length kcap] 71)).alloc (.cells #[.slice none 0 0] 38)).heap[w1.heap.size + 1]? = some (.cells #[.slice none 0 0] 38 (0, 0)) := (by show ((w1.heap.push _).push _)[w1.heap.size + 1]? = _; simp only [Array.getElem?_push, Array.size_push]; rw [if_pos trivial]); have H := Lib.hid (HC.out _ (grownBy_trans (World.grownBy_alloc _ _ _) (World.grownBy_alloc _ _ _)) (w1.heap.size + 1) (by omega) (by simp) h0); unfold fvP at H; clear hg1 hk1 hkc h0 HC))
        | (go_at_call 33; go_must (refine H.out.mono ?_; rintro e w2 ⟨rfl, hf, Bb, _, ov, vs, hi1, hi2, hi3⟩; rw [HW.out] at hi2 hi3 ⊢; have hv : w2.cell? ⟨w1.heap.size + 1, 0, none⟩ = some ov := (by simp [World.cell?, hi1]); have HF := Lib.hid hf; have HO := Lib.hid hi2; have HRw := Lib.hid hi3; clear hf hi1 hi2 hi3)))
      go_ret2
      obtain ⟨l1, l2⟩ := points_lens HE.out
      have hful := HFull.out
      have he : pointsErr S = 0 := by rw [HEr.out, if_neg (by omega)]
      refine ⟨ov, by simp [he], ?_, grownBy_trans (World.grownBy_alloc _ _ _) (grownBy_trans G1.out (HF.out.pre (grownBy_trans (World.grownBy_alloc _ _ _) (World.grownBy_alloc _ _ _)) (by omega)))⟩
      unfold pointsOf
      rw [he, if_pos (by decide)]
      exact rows_of_owns (R := pointsFrom S [] S.1) HO.out HRw.out (by omega) l1 l2
    · have HW := Lib.hid (show walkP goRoom [] (pointsFrom S [] S.1) = ((pointsFrom S [] S.1).take 5001, false) by rw [walkP_room _ [] (by simp), if_neg (by simpa using hfull)]; simp)
      have HFull := Lib.hid hfull
      clear hfull
      go_enter Try.func9, Try.ntmps9
      go_wp2_with (first
        | (go_at_call 30; go_must (refine (spaceOf_any S _ _ _ (HS.out.kept (World.grownBy_alloc _ _ _))).mono ?_; rintro e w1 ⟨hg1, _, hk0⟩; obtain ⟨kv, rfl, hk1⟩ := hk0 HE.out; clear hk0; obtain ⟨pk, kcap, rfl, hkl, hkc⟩ := id hk1; have G1 := Lib.hid hg1; have K1 := Lib.hid hk1; have HC := Lib.hid (fun (W : World) (hp : w1.grownBy W none) (V : Nat) (hV : w1.heap.size ≤ V) (hV2 : V + 1 = W.heap.size) (h0 : W.heap[V]? = some (.cells #[.slice none 0 0] 38 (0, 0))) => eachP_any S (.slice p S.1.length cap) (.slice pk (rowsOf S).length kcap) V (V + 1) (ListInv V) goRoom w1 W (HS.out.1.kept (grownBy_trans (World.grownBy_alloc _ _ _) hg1)) hk1 HE.out hp hV (by omega) (fun _ => ⟨_, [], h0, World.ownsRow_nil _ _ _ _, rfl, fun j pt hj => by simp at hj⟩) (fun Bb hB => list_steady (by omega)) (fun wE Bb hg hB => list_visit (by have := hg.size; omega) (by omega))); have h0 : ((w1.alloc (.cells #[.slice p S.1.length cap, .slice pk (rowsOf S).length kcap] 71)).alloc (.cells #[.slice none 0 0] 38)).heap[w1.heap.size + 1]? = some (.cells #[.slice none 0 0] 38 (0, 0)) := (by show ((w1.heap.push _).push _)[w1.heap.size + 1]? = _; simp only [Array.getElem?_push, Array.size_push]; rw [if_pos trivial]); have H := Lib.hid (HC.out _ (grownBy_trans (World.grownBy_alloc _ _ _) (World.grownBy_alloc _ _ _)) (w1.heap.size + 1) (by omega) (by simp) h0); unfold fvP at H; clear hg1 hk1 hkc h0 HC))
        | (go_at_call 33; go_must (refine H.out.mono ?_; rintro e w2 ⟨rfl, hf, Bb, _, ov, vs, hi1, hi2, hi3⟩; rw [HW.out] at hi2 hi3 ⊢; have hv : w2.cell? ⟨w1.heap.size + 1, 0, none⟩ = some ov := (by simp [World.cell?, hi1]); have HF := Lib.hid hf; have HO := Lib.hid hi2; have HRw := Lib.hid hi3; clear hf hi1 hi2 hi3)))
      go_ret2
      have hful := HFull.out
      have he : pointsErr S = 12 := by rw [HEr.out, if_pos (by omega)]
      refine ⟨.slice none 0 0, by simp [he], ?_, grownBy_trans (World.grownBy_alloc _ _ _) (grownBy_trans G1.out (HF.out.pre (grownBy_trans (World.grownBy_alloc _ _ _) (World.grownBy_alloc _ _ _)) (by omega)))⟩
      unfold pointsOf
      rw [he, if_neg (by decide)]
      exact rows_nil _
  · have hE0 : (setErr S != 0) = true := by simp [hE]
    have HE := Lib.hid hE
    have HEr := Lib.hid (show pointsErr S = setErr S by simp [pointsErr, hE])
    clear hE
    go_enter Try.func9, Try.ntmps9
    go_wp2_with (first
      | (go_at_call 30; go_must (refine (spaceOf_any S _ _ _ (HS.out.kept (World.grownBy_alloc _ _ _))).mono ?_; rintro e w1 ⟨hg1, hk0, _⟩; obtain rfl := hk0 HE.out; have G1 := Lib.hid hg1; clear hg1 hk0)))
    go_ret2
    refine ⟨.slice none 0 0, by simp [HEr.out], ?_, grownBy_trans (World.grownBy_alloc _ _ _) (grownBy_trans G1.out (World.grownBy_alloc _ _ _))⟩
    unfold pointsOf
    rw [HEr.out, if_neg (by simpa using HE.out)]
    exact rows_nil _

end Go.Proofs.Ytjgddagladmgoaa
