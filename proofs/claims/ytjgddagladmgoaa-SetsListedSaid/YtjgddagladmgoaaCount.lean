/-
 count, Count.
-/
import Derived.Test.YtjgddagladmgoaaEachC
namespace Go.Proofs.Ytjgddagladmgoaa
open Go.RowKit

/-- What a count has made: a number in its block. -/
def CountInv (V : Nat) (_ : Nat) (d : List (List Int)) (w : World) : Prop := w.heap[V]? = some (.cells #[.int .i64 d.length] 3 (0, 0))
def goOn (_ : List (List Int)) : Bool := true

theorem walkP_on : ∀ (ps d : List (List Int)), walkP goOn d ps = (d ++ ps, true)
  | [], d => by simp [walkP]
  | p :: r, d => by simp [walkP, goOn, walkP_on r]

theorem count_steady {V Bb B : Nat} (h : V < Bb) : Steady Bb (CountInv V B) := fun d w w' hi hg => heap_keep (show w.heap[V]? = _ from hi) hg (by simp; omega)

set_option maxHeartbeats 1000000 in
theorem count_visit {wE : World} {V Bb n : Nat} (hV : V < wE.heap.size) : VisitOkC wE V (V + 1) Bb n (CountInv V Bb) goOn := by
  intro d pt w h hb hd
  have hlo := h.lo
  have hh : w.heap[V]? = some (.cells #[.int .i64 d.length] 3 (0, 0)) := h.inv
  have hv : w.cell? ⟨V, 0, none⟩ = some (.int .i64 d.length) := by simp [World.cell?, hh]
  have hf : w.frozen? ⟨V, 0, none⟩ = false := by simp [World.frozen?, hh]
  have HH := Lib.hid hh
  have HS := Lib.hid h
  clear h hh hb
  go_enter Try.func53, Try.ntmps53
  go_wp2
  go_ret
  have hg := grown_set w V 0 (.int .i64 ((d.length : Int) + 1))
  refine ⟨rfl, HS.out.framed.more hg (fun k hk => by cases hk; exact .inr ⟨Nat.le_refl _, by omega⟩), HS.out.lo, HS.out.hi, heap_keep HS.out.buf hg (by simp; omega), HS.out.len, ?_⟩
  show (w.heap.modify V _)[V]? = _
  rw [Array.getElem?_modify, if_pos rfl, HH.out]
  simp

set_option maxHeartbeats 1000000 in
theorem spaceCount_any (S : List SideD × List CondD) (sv kv : Value) (w : World) (hs : SidesAt w sv S.1) (hk : RowLAt w kv (rowsOf S)) (hgood : setErr S = 0) :
    Calls Try.prog 32 #[.agg #[sv, kv]] w (Gives (.int .i64 (pointsFrom S [] S.1).length) w) := by
  obtain ⟨p, cap, rfl, ⟨hsl, hscc⟩, hsc⟩ := id hs
  obtain ⟨pk, kcap, rfl, hkl, hkc⟩ := id hk
  have HC := Lib.hid (fun (W : World) (hp : w.grownBy W none) (V : Nat) (hV : w.heap.size ≤ V) (hV2 : V + 1 = W.heap.size) (h0 : W.heap[V]? = some (.cells #[.int .i64 0] 3 (0, 0))) =>
    eachC_any S (.slice p S.1.length cap) (.slice pk (rowsOf S).length kcap) V (V + 1) (CountInv V) goOn w W hs hk hgood hp hV (by omega) (fun _ => h0) (fun Bb hB => count_steady (by omega)) (fun wE Bb hg hB => count_visit (by have := hg.size; omega)))
  clear hs hk hsc hkc
  go_enter Try.func32, Try.ntmps32
  have h0 : ((w.alloc (.cells #[.slice p S.1.length cap, .slice pk (rowsOf S).length kcap] 71)).alloc (.cells #[.int .i64 0] 3)).heap[w.heap.size + 1]? = some (.cells #[.int .i64 0] 3 (0, 0)) := by
    show ((w.heap.push _).push _)[w.heap.size + 1]? = _
    simp only [Array.getElem?_push, Array.size_push]
    rw [if_pos trivial]
  have H := Lib.hid (HC.out _ (grownBy_trans (World.grownBy_alloc _ _ _) (World.grownBy_alloc _ _ _)) (w.heap.size + 1) (by omega) (by simp) h0)
  unfold fvC at H
  clear h0
  go_wp2_with (first | (go_at_call 33; go_must (refine H.out.mono ?_; rintro e w1 ⟨rfl, hf, Bb, _, hi⟩; rw [walkP_on, List.nil_append] at hi; have HF := Lib.hid hf; have hi : w1.heap[w.heap.size + 1]? = some (.cells #[.int .i64 (pointsFrom S [] S.1).length] 3 (0, 0)) := hi; have hv : w1.cell? ⟨w.heap.size + 1, 0, none⟩ = some (.int .i64 (pointsFrom S [] S.1).length) := (by simp [World.cell?, hi]); clear hf hi)))
  go_ret
  exact ⟨rfl, HF.out.pre (w := w) (grownBy_trans (World.grownBy_alloc _ _ _) (World.grownBy_alloc _ _ _)) (by omega)⟩

/-- What Count gives. -/
def countOf (S : List SideD × List CondD) : Int := if setErr S == 0 then (pointsFrom S [] S.1).length else 0

set_option maxHeartbeats 1000000 in
theorem count_any (S : List SideD × List CondD) (sv cv : Value) (w : World) (hS : SetAt w sv cv S) :
    Calls Try.prog 8 #[.agg #[sv, cv]] w (Gives (.tuple #[.int .i64 (countOf S), .int .i64 (setErr S)]) w) := by
  obtain ⟨⟨p, cap, rfl, ⟨hsl, hscc⟩, hsc⟩, ⟨pc, ccap, rfl, hcl, hcc⟩⟩ := id hS
  have HS := Lib.hid hS
  clear hS hsc hcc
  by_cases hE : setErr S = 0
  · have hE0 : (setErr S != 0) = false := by simp [hE]
    have HE := Lib.hid hE
    clear hE
    go_enter Try.func8, Try.ntmps8
    go_wp2_with (first
      | (go_at_call 30; go_must (refine (spaceOf_any S _ _ _ (HS.out.kept (World.grownBy_alloc _ _ _))).mono ?_; rintro e w1 ⟨hg1, _, hk0⟩; obtain ⟨kv, rfl, hk1⟩ := hk0 HE.out; clear hk0; obtain ⟨pk, kcap, rfl, hkl, hkc⟩ := id hk1; have G1 := Lib.hid hg1; have K1 := Lib.hid hk1; clear hg1 hk1 hkc))
      | (go_at_call 32; go_must (refine (spaceCount_any S _ _ _ (HS.out.1.kept (grownBy_trans (World.grownBy_alloc _ _ _) (grownBy_trans G1.out (World.grownBy_alloc _ _ _)))) (K1.out.kept (World.grownBy_alloc _ _ _)) HE.out).mono ?_; rintro e w2 ⟨rfl, hg2⟩; have G2 := Lib.hid hg2; clear hg2)))
    go_ret2
    exact ⟨by simp [countOf, HE.out], grownBy_trans (World.grownBy_alloc _ _ _) (grownBy_trans G1.out (grownBy_trans (World.grownBy_alloc _ _ _) G2.out))⟩
  · have hE0 : (setErr S != 0) = true := by simp [hE]
    have HE := Lib.hid hE
    clear hE
    go_enter Try.func8, Try.ntmps8
    go_wp2_with (first
      | (go_at_call 30; go_must (refine (spaceOf_any S _ _ _ (HS.out.kept (World.grownBy_alloc _ _ _))).mono ?_; rintro e w1 ⟨hg1, hk0, _⟩; obtain rfl := hk0 HE.out; have G1 := Lib.hid hg1; clear hg1 hk0)))
    go_ret2
    exact ⟨by simp [countOf, HE.out], grownBy_trans (World.grownBy_alloc _ _ _) (grownBy_trans G1.out (World.grownBy_alloc _ _ _))⟩

end Go.Proofs.Ytjgddagladmgoaa
