/-
 SetsListed: Count, Greatest, and the walk of the law.
-/
import Derived.Test.YtjgddagladmgoaaEachC
import Derived.Test.YtjgddagladmgoaaEachG
import Derived.Test.YtjgddagladmgoaaLeast
import Derived.BigQuiet
import Derived.Test.YtjgddagladmgoaaAPost
import Derived.Test.YtjgddagladmgoaaHasT
import Derived.Test.YtjgddagladmgoaaPointsP
import Derived.Test.YtjgddagladmgoaaSame
import Derived.Test.YtjgddagladmgoaaParts
namespace Go.Proofs.Ytjgddagladmgoaa
open Go.RowKit

/-- What a count has made: a number in its block. -/
def CountInv (V : Nat) (_ : Nat) (d : List (List Int)) (w : World) : Prop := w.heap[V]? = some (.cells #[.int .i64 d.length] 3 (0, 0))
def goOn (_ : List (List Int)) : Bool := true

theorem walkP_on : ∀ (ps d : List (List Int)), walkP goOn d ps = (d ++ ps, true)
  | [], d => by simp [walkP]
  | p :: r, d => by simp [walkP, goOn, walkP_on r]

theorem count_steady {V Bb B : Nat} (h : V < Bb) : Steady Bb (CountInv V B) := fun d w w' hi hg => heap_keep (show w.heap[V]? = _ from hi) hg (by simp; omega)

set_option maxHeartbeats 1000000 in
theorem count_visit {wE : World} {V Bb n : Nat} (hV : V < wE.heap.size) : VisitOkC wE V (V + 1) Bb n (CountInv V Bb) goOn := by
  intro d pt w h hb hd
  have hlo := h.lo
  have hh : w.heap[V]? = some (.cells #[.int .i64 d.length] 3 (0, 0)) := h.inv
  have hv : w.cell? ⟨V, 0, none⟩ = some (.int .i64 d.length) := by simp [World.cell?, hh]
  have hf : w.frozen? ⟨V, 0, none⟩ = false := by simp [World.frozen?, hh]
  have HH := Lib.hid hh
  have HS := Lib.hid h
  clear h hh hb
  go_enter Try.func53, Try.ntmps53
  go_wp2
  go_ret
  have hg := grown_set w V 0 (.int .i64 ((d.length : Int) + 1))
  refine ⟨rfl, HS.out.framed.more hg (fun k hk => by cases hk; exact .inr ⟨Nat.le_refl _, by omega⟩), HS.out.lo, HS.out.hi, heap_keep HS.out.buf hg (by simp; omega), HS.out.len, ?_⟩
  show (w.heap.modify V _)[V]? = _
  rw [Array.getElem?_modify, if_pos rfl, HH.out]
  simp

set_option maxHeartbeats 1000000 in
theorem spaceCount_any (S : List SideD × List CondD) (sv kv : Value) (w : World) (hs : SidesAt w sv S.1) (hk : RowLAt w kv (rowsOf S)) (hgood : setErr S = 0) :
    Calls Try.prog 32 #[.agg #[sv, kv]] w (Gives (.int .i64 (pointsFrom S [] S.1).length) w) := by
  obtain ⟨p, cap, rfl, ⟨hsl, hscc⟩, hsc⟩ := id hs
  obtain ⟨pk, kcap, rfl, hkl, hkc⟩ := id hk
  have HC := Lib.hid (fun (W : World) (hp : w.grownBy W none) (V : Nat) (hV : w.heap.size ≤ V) (hV2 : V + 1 = W.heap.size) (h0 : W.heap[V]? = some (.cells #[.int .i64 0] 3 (0, 0))) =>
    eachC_any S (.slice p S.1.length cap) (.slice pk (rowsOf S).length kcap) V (V + 1) (CountInv V) goOn w W hs hk hgood hp hV (by omega) (fun _ => h0) (fun Bb hB => count_steady (by omega)) (fun wE Bb hg hB => count_visit (by have := hg.size; omega)))
  clear hs hk hsc hkc
  go_enter Try.func32, Try.ntmps32
  have h0 : ((w.alloc (.cells #[.slice p S.1.length cap, .slice pk (rowsOf S).length kcap] 71)).alloc (.cells #[.int .i64 0] 3)).heap[w.heap.size + 1]? = some (.cells #[.int .i64 0] 3 (0, 0)) := by
    show ((w.heap.push _).push _)[w.heap.size + 1]? = _
    simp only [Array.getElem?_push, Array.size_push]
    rw [if_pos trivial]
  have H := Lib.hid (HC.out _ (grownBy_trans (World.grownBy_alloc _ _ _) (World.grownBy_alloc _ _ _)) (w.heap.size + 1) (by omega) (by simp) h0)
  unfold fvC at H
  clear h0
  go_wp2_with (first | (go_at_call 33; go_must (refine H.out.mono ?_; rintro e w1 ⟨rfl, hf, Bb, _, hi⟩; rw [walkP_on, List.nil_append] at hi; have HF := Lib.hid hf; have hi : w1.heap[w.heap.size + 1]? = some (.cells #[.int .i64 (pointsFrom S [] S.1).length] 3 (0, 0)) := hi; have hv : w1.cell? ⟨w.heap.size + 1, 0, none⟩ = some (.int .i64 (pointsFrom S [] S.1).length) := (by simp [World.cell?, hi]); clear hf hi)))
  go_ret
  exact ⟨rfl, HF.out.pre (w := w) (grownBy_trans (World.grownBy_alloc _ _ _) (World.grownBy_alloc _ _ _)) (by omega)⟩

/-- What Count gives. -/
def countOf (S : List SideD × List CondD) : Int := if setErr S == 0 then (pointsFrom S [] S.1).length else 0

set_option maxHeartbeats 1000000 in
theorem count_any (S : List SideD × List CondD) (sv cv : Value) (w : World) (hS : SetAt w sv cv S) :
    Calls Try.prog 8 #[.agg #[sv, cv]] w (Gives (.tuple #[.int .i64 (countOf S), .int .i64 (setErr S)]) w) := by
  obtain ⟨⟨p, cap, rfl, ⟨hsl, hscc⟩, hsc⟩, ⟨pc, ccap, rfl, hcl, hcc⟩⟩ := id hS
  have HS := Lib.hid hS
  clear hS hsc hcc
  by_cases hE : setErr S = 0
  · have hE0 : (setErr S != 0) = false := by simp [hE]
    have HE := Lib.hid hE
    clear hE
    go_enter Try.func8, Try.ntmps8
    go_wp2_with (first
      | (go_at_call 30; go_must (refine (spaceOf_any S _ _ _ (HS.out.kept (World.grownBy_alloc _ _ _))).mono ?_; rintro e w1 ⟨hg1, _, hk0⟩; obtain ⟨kv, rfl, hk1⟩ := hk0 HE.out; clear hk0; obtain ⟨pk, kcap, rfl, hkl, hkc⟩ := id hk1; have G1 := Lib.hid hg1; have K1 := Lib.hid hk1; clear hg1 hk1 hkc))
      | (go_at_call 32; go_must (refine (spaceCount_any S _ _ _ (HS.out.1.kept (grownBy_trans (World.grownBy_alloc _ _ _) (grownBy_trans G1.out (World.grownBy_alloc _ _ _)))) (K1.out.kept (World.grownBy_alloc _ _ _)) HE.out).mono ?_; rintro e w2 ⟨rfl, hg2⟩; have G2 := Lib.hid hg2; clear hg2)))
    go_ret2
    exact ⟨by simp [countOf, HE.out], grownBy_trans (World.grownBy_alloc _ _ _) (grownBy_trans G1.out (grownBy_trans (World.grownBy_alloc _ _ _) G2.out))⟩
  · have hE0 : (setErr S != 0) = true := by simp [hE]
    have HE := Lib.hid hE
    clear hE
    go_enter Try.func8, Try.ntmps8
    go_wp2_with (first
      | (go_at_call 30; go_must (refine (spaceOf_any S _ _ _ (HS.out.kept (World.grownBy_alloc _ _ _))).mono ?_; rintro e w1 ⟨hg1, hk0, _⟩; obtain rfl := hk0 HE.out; have G1 := Lib.hid hg1; clear hg1 hk0)))
    go_ret2
    exact ⟨by simp [countOf, HE.out], grownBy_trans (World.grownBy_alloc _ _ _) (grownBy_trans G1.out (World.grownBy_alloc _ _ _))⟩

end Go.Proofs.Ytjgddagladmgoaa

namespace Go.Proofs.Ytjgddagladmgoaa
open Go.RowKit

/-- What the visits of Greatest have made: a copy of the last one, and whether there was one. -/
def GreatInv (V Bb : Nat) (d : List (List Int)) (w : World) : Prop :=
  ∃ rv, w.heap[V]? = some (.cells #[rv] 22 (0, 0)) ∧ w.heap[V + 1]? = some (.cells #[.bool (!d.isEmpty)] 4 (0, 0)) ∧ w.ownsRow (Bb + 1) 3 1 rv (d.getLast?.getD []).length ((d.getLast?.getD []).map (Value.int .i64))

theorem great_steady {V Bb : Nat} (h : V + 1 < Bb) : Steady Bb (GreatInv V Bb) := by
  rintro d w w' ⟨rv, h1, h2, h3⟩ hg
  refine ⟨rv, heap_keep h1 hg (by simp; omega), heap_keep h2 hg (by simp; omega), h3.kept hg ?_⟩
  cases hb : rv.ownBlock with
  | none => exact .inl rfl
  | some g =>
    refine .inr fun e => ?_
    have := (h3.lt g hb).1
    have := Option.some.inj e
    omega

/-- The head of a row, to be written anew. -/
theorem owns_head {w : World} {base : Nat} {e : TypeId} {rv : Value} {n : Nat} {xs : List Value} (h : w.ownsRow base e 1 rv n xs) : ∃ p cap, rv = .slice p n cap ∧ w.ownsRow base e 1 (.slice p 0 cap) 0 [] ∧ (Value.slice p 0 cap).ownBlock = rv.ownBlock ∧ (p = none → cap = 0 ∧ n = 0) ∧ (∀ a, p = some a → ∃ g, a = ⟨g, 0, none⟩) := by
  rcases h.2 with ⟨rfl, hz⟩ | ⟨g, cap, cur, rfl, hb, hg, hn, hc, hs, _⟩
  · subst hz
    exact ⟨none, 0, rfl, World.ownsRow_nil _ _ _ _, rfl, fun _ => ⟨rfl, rfl⟩, fun a ha => by cases ha⟩
  · exact ⟨some ⟨g, 0, none⟩, cap, rfl, ⟨rfl, .inr ⟨g, cap, cur, rfl, hb, hg, Nat.zero_le _, hc, hs, by simp⟩⟩, rfl, (fun h => by cases h), (fun a ha => ⟨g, by cases ha; rfl⟩)⟩

theorem great_end {wE w w1 : World} {V Bb n : Nat} {d : List (List Int)} {pt : List Int} {rv pv : Value} (h : FromSt wE w V (V + 1 + 1) Bb n (GreatInv V Bb) d pt) (hV : V + 1 < wE.heap.size) (h1 : w.heap[V]? = some (.cells #[rv] 22 (0, 0))) (h2 : w.heap[V + 1]? = some (.cells #[.bool (!d.isEmpty)] 4 (0, 0)))
    (hb : ∀ k, rv.ownBlock = some k → Bb + 1 ≤ k) (hg : w.grownBy w1 rv.ownBlock) (ho : w1.ownsRow (Bb + 1) 3 1 pv pt.length (pt.map (Value.int .i64))) :
    FromSt wE ((w1.setCell ⟨V, 0, none⟩ pv).setCell ⟨V + 1, 0, none⟩ (.bool true)) V (V + 1 + 1) Bb n (GreatInv V Bb) (d ++ [pt]) pt := by
  have hlo := h.lo
  have g1 := grown_set w1 V 0 pv
  have g2 := grown_set (w1.setCell ⟨V, 0, none⟩ pv) (V + 1) 0 (.bool true)
  have f1 := h.framed.more hg (fun k hk => .inl (by have := hb k hk; omega))
  have f2 := (f1.more g1 (fun k hk => by cases hk; exact .inr ⟨Nat.le_refl _, by omega⟩)).more g2 (fun k hk => by cases hk; exact .inr ⟨by omega, by omega⟩)
  have k1 := heap_keep h1 hg (fun e => by have := hb _ e; omega)
  have k2 := heap_keep h2 hg (fun e => by have := hb _ e; omega)
  have k3 := heap_keep h.buf hg (fun e => by have := hb _ e; omega)
  have k4 : (w1.setCell ⟨V, 0, none⟩ pv).heap[V]? = some (.cells #[pv] 22 (0, 0)) := by
    show (w1.heap.modify V _)[V]? = _
    rw [Array.getElem?_modify, if_pos rfl, k1]
    simp
  have k5 := heap_keep k2 g1 (by simp)
  refine ⟨f2, h.lo, h.hi, heap_keep (heap_keep k3 g1 (by simp; omega)) g2 (by simp; omega), h.len, pv, heap_keep k4 g2 (by simp), ?_, ?_⟩
  · show ((w1.setCell ⟨V, 0, none⟩ pv).heap.modify (V + 1) _)[V + 1]? = _
    rw [Array.getElem?_modify, if_pos rfl, k5]
    simp
  · simp only [List.getLast?_concat, Option.getD_some]
    have hne : ∀ k, k < Bb + 1 → pv.ownBlock = none ∨ pv.ownBlock ≠ some k := fun k hk => by
      cases hb : pv.ownBlock with
      | none => exact .inl rfl
      | some g =>
        refine .inr fun e => ?_
        have := (ho.lt g hb).1
        have := Option.some.inj e
        omega
    exact (ho.kept g1 (hne V (by omega))).kept g2 (hne (V + 1) (by omega))

set_option maxHeartbeats 1000000 in
theorem great_visit {wE : World} {V Bb n : Nat} (hV : V + 1 < wE.heap.size) (hn : n ≤ 1000) : VisitOkG wE V (V + 1 + 1) Bb n (GreatInv V Bb) goOn := by
  intro d pt w h hb hd
  have hlo := h.lo
  obtain ⟨rv, h1, h2, h3⟩ := h.inv
  have hl := h.len
  subst hl
  have hBb : Bb < w.heap.size := (Array.getElem?_eq_some_iff.1 h.buf).1
  obtain ⟨p, cap, rfl, ho0, hob, hnone, hsome⟩ := owns_head h3
  have hc1 : w.cell? ⟨V, 0, none⟩ = some (.slice p (d.getLast?.getD []).length cap) := by simp [World.cell?, h1]
  have HNews := Lib.hid (fun j u (hj : (pt.map (Value.int .i64))[j]? = some u) => show w.cell? ((⟨Bb, 0, none⟩ : Addr).add j) = some u by
    have hadd : (⟨Bb, 0, none⟩ : Addr).add j = ⟨Bb, j, none⟩ := by unfold Addr.add; split <;> simp_all
    rw [hadd]
    have hj' : (pt.map (Value.int .i64)).toArray[j]? = some u := by simpa using hj
    simp [World.cell?, h.buf]
    simpa using hj)
  have HBo := Lib.hid (fun k hk => (h3.lt k hk).1)
  have H1 := Lib.hid h1
  have H2 := Lib.hid h2
  have H0 := Lib.hid ho0
  have HOb := Lib.hid hob
  have HS := Lib.hid h
  obtain ⟨i0, hi, hz0, hz1, hz2⟩ := info_parts Try.infoInt
  clear h hb h1 h2 h3 ho0 hob
  generalize (d.getLast?.getD []).length = ll at *
  cases p with
  | none =>
    obtain ⟨rfl, rfl⟩ := hnone rfl
    clear hnone hsome
    go_enter Try.func37, Try.ntmps37
    go_wp2_with (at_builtin; go_must (refine wpList_append_own _ rfl _ _ 22 rfl (Bb + 1) 3 i0 (.int .i64 0) 1 8 Try.underlying22 hi hz0 hz1 hz2 rfl (by decide) (.slice none 0 0) 0 [] rfl H0.out ⟨Bb, 0, none⟩ pt.length pt.length (pt.map (Value.int .i64)) rfl (by simp) HNews.out (by intro u hu; obtain ⟨x, _, rfl⟩ := List.mem_map.1 hu; rfl) (by unfold maxLen; omega) (by omega) (by omega) ?_; intro v' w1 ho hg _; rw [Nat.zero_add, List.nil_append] at ho; rw [HOb.out] at hg; obtain ⟨pv, vcap, rfl⟩ := own_form ho; have k1 := heap_keep H1.out hg (fun e => by have := HBo.out _ e; omega); have k2 := heap_keep H2.out hg (fun e => by have := HBo.out _ e; omega); have c1 : w1.cell? ⟨V, 0, none⟩ = some (.slice none 0 0) := (by simp [World.cell?, k1]); have f1 : w1.frozen? ⟨V, 0, none⟩ = false := (by simp [World.frozen?, k1]); have c2 : w1.cell? ⟨V + 1, 0, none⟩ = some (.bool (!d.isEmpty)) := (by simp [World.cell?, k2]); have f2 : w1.frozen? ⟨V + 1, 0, none⟩ = false := (by simp [World.frozen?, k2]); have HO := Lib.hid ho; have HG := Lib.hid hg; clear ho hg k1 k2))
    go_ret
    exact ⟨rfl, great_end HS.out hV H1.out H2.out HBo.out HG.out HO.out⟩
  | some a =>
    obtain ⟨g, rfl⟩ := hsome a rfl
    clear hnone hsome
    go_enter Try.func37, Try.ntmps37
    go_wp2_with (at_builtin; go_must (refine wpList_append_own _ rfl _ _ 22 rfl (Bb + 1) 3 i0 (.int .i64 0) 1 8 Try.underlying22 hi hz0 hz1 hz2 rfl (by decide) (.slice (some ⟨g, 0, none⟩) 0 cap) 0 [] rfl H0.out ⟨Bb, 0, none⟩ pt.length pt.length (pt.map (Value.int .i64)) rfl (by simp) HNews.out (by intro u hu; obtain ⟨x, _, rfl⟩ := List.mem_map.1 hu; rfl) (by unfold maxLen; omega) (by omega) (by omega) ?_; intro v' w1 ho hg _; rw [Nat.zero_add, List.nil_append] at ho; rw [HOb.out] at hg; obtain ⟨pv, vcap, rfl⟩ := own_form ho; have k1 := heap_keep H1.out hg (fun e => by have := HBo.out _ e; omega); have k2 := heap_keep H2.out hg (fun e => by have := HBo.out _ e; omega); have c1 : w1.cell? ⟨V, 0, none⟩ = some (.slice (some ⟨g, 0, none⟩) ll cap) := (by simp [World.cell?, k1]); have f1 : w1.frozen? ⟨V, 0, none⟩ = false := (by simp [World.frozen?, k1]); have c2 : w1.cell? ⟨V + 1, 0, none⟩ = some (.bool (!d.isEmpty)) := (by simp [World.cell?, k2]); have f2 : w1.frozen? ⟨V + 1, 0, none⟩ = false := (by simp [World.frozen?, k2]); have HO := Lib.hid ho; have HG := Lib.hid hg; clear ho hg k1 k2))
    go_ret
    exact ⟨rfl, great_end HS.out hV H1.out H2.out HBo.out HG.out HO.out⟩


def lastOf (S : List SideD × List CondD) : List Int := if setErr S == 0 then (pointsFrom S [] S.1).getLast?.getD [] else []

theorem last_good {S : List SideD × List CondD} (h : setErr S = 0) : ((pointsFrom S [] S.1).getLast?.getD []).length ≤ 1000 ∧ ∀ x ∈ (pointsFrom S [] S.1).getLast?.getD [], -9223372036854775808 ≤ x ∧ x ≤ 9223372036854775807 := by
  have hp := points_good S S.1 [] (fun s hs => (sides_good [] (set_good h).2.1 s hs).2) (fun x hx => by cases hx)
  have h8 := (set_good h).1
  cases hps : (pointsFrom S [] S.1).getLast? with
  | none => simp
  | some p =>
    obtain ⟨q1, q2⟩ := hp p (List.mem_of_getLast? hps)
    simp only [Option.getD_some]
    exact ⟨by simp at q1; omega, fun x hx => by have := q2 x hx; omega⟩

set_option maxHeartbeats 2000000 in
theorem greatest_any (S : List SideD × List CondD) (sv cv : Value) (w : World) (hS : SetAt w sv cv S) :
    Calls Try.prog 11 #[.agg #[sv, cv]] w (EndPost (lastOf S) (someOf S) (setErr S) w) := by
  obtain ⟨⟨p, cap, rfl, ⟨hsl, hscc⟩, hsc⟩, ⟨pc, ccap, rfl, hcl, hcc⟩⟩ := id hS
  have HS := Lib.hid hS
  clear hS hsc hcc
  by_cases hE : setErr S = 0
  · have hE0 : (setErr S != 0) = false := by simp [hE]
    have hn8 := (set_good hE).1
    have HE := Lib.hid hE
    clear hE
    go_enter Try.func11, Try.ntmps11
    go_wp2_with (first
      | (go_at_call 30; go_must (refine (spaceOf_any S _ _ _ (HS.out.kept (World.grownBy_alloc _ _ _))).mono ?_; rintro e w1 ⟨hg1, _, hk0⟩; obtain ⟨kv, rfl, hk1⟩ := hk0 HE.out; clear hk0; obtain ⟨pk, kcap, rfl, hkl, hkc⟩ := id hk1; have G1 := Lib.hid hg1; have K1 := Lib.hid hk1; have HC := Lib.hid (fun (W : World) (hp : w1.grownBy W none) (V : Nat) (hV : w1.heap.size ≤ V) (hV2 : V + 1 + 1 = W.heap.size) (h0 : W.heap[V]? = some (.cells #[.slice none 0 0] 22 (0, 0))) (h1 : W.heap[V + 1]? = some (.cells #[.bool false] 4 (0, 0))) => eachG_any S (.slice p S.1.length cap) (.slice pk (rowsOf S).length kcap) V (V + 1 + 1) (GreatInv V) goOn w1 W (HS.out.1.kept (grownBy_trans (World.grownBy_alloc _ _ _) hg1)) hk1 HE.out hp hV (by omega) (fun _ => ⟨_, h0, h1, World.ownsRow_nil _ _ _ _⟩) (fun Bb hB => great_steady (by omega)) (fun wE Bb hg hB => great_visit (by have := hg.size; omega) (by omega))); have h0 : (((w1.alloc (.cells #[.slice p S.1.length cap, .slice pk (rowsOf S).length kcap] 71)).alloc (.cells #[.slice none 0 0] 22)).alloc (.cells #[.bool false] 4)).heap[w1.heap.size + 1]? = some (.cells #[.slice none 0 0] 22 (0, 0)) := (by show (((w1.heap.push _).push _).push _)[w1.heap.size + 1]? = _; simp only [Array.getElem?_push, Array.size_push]; rw [if_neg (by omega), if_pos trivial]); have h1 : (((w1.alloc (.cells #[.slice p S.1.length cap, .slice pk (rowsOf S).length kcap] 71)).alloc (.cells #[.slice none 0 0] 22)).alloc (.cells #[.bool false] 4)).heap[w1.heap.size + 1 + 1]? = some (.cells #[.bool false] 4 (0, 0)) := (by show (((w1.heap.push _).push _).push _)[w1.heap.size + 1 + 1]? = _; simp only [Array.getElem?_push, Array.size_push]; rw [if_pos trivial]); have H := Lib.hid (HC.out _ (grownBy_trans (World.grownBy_alloc _ _ _) (grownBy_trans (World.grownBy_alloc _ _ _) (World.grownBy_alloc _ _ _))) (w1.heap.size + 1) (by omega) (by simp) h0 h1); unfold fvG at H; clear hg1 hk1 hkc h0 h1 HC))
      | (go_at_call 33; go_must (refine H.out.mono ?_; rintro e w2 ⟨rfl, hf, Bb, _, rv, hi1, hi2, hi3⟩; rw [walkP_on, List.nil_append] at hi2 hi3; have HF := Lib.hid hf; have hv : w2.cell? ⟨w1.heap.size + 1, 0, none⟩ = some rv := (by simp [World.cell?, hi1]); have hv2 : w2.cell? ⟨w1.heap.size + 1 + 1, 0, none⟩ = some (.bool (!(pointsFrom S [] S.1).isEmpty)) := (by simp [World.cell?, hi2]); have HO := Lib.hid hi3; clear hf hi1 hi2 hi3)))
    go_quiet (fail)
    go_wp2
    go_ret3
    obtain ⟨q1, q2⟩ := last_good HE.out
    have hh : lastOf S = (pointsFrom S [] S.1).getLast?.getD [] := by simp [lastOf, HE.out]
    refine ⟨rv, by simp [someOf, HE.out], ?_, ?_⟩
    · rw [hh]
      exact (ints_of_owns HO.out (by omega) q2).kept (grownBy_drewN _ _ _)
    · exact grownBy_trans (World.grownBy_alloc _ _ _) (grownBy_trans G1.out (grownBy_trans (HF.out.pre (grownBy_trans (World.grownBy_alloc _ _ _) (grownBy_trans (World.grownBy_alloc _ _ _) (World.grownBy_alloc _ _ _))) (by omega)) (grownBy_drewN _ _ _)))
  · have hE0 : (setErr S != 0) = true := by simp [hE]
    have HE := Lib.hid hE
    clear hE
    go_enter Try.func11, Try.ntmps11
    go_wp2_with (first
      | (go_at_call 30; go_must (refine (spaceOf_any S _ _ _ (HS.out.kept (World.grownBy_alloc _ _ _))).mono ?_; rintro e w1 ⟨hg1, hk0, _⟩; obtain rfl := hk0 HE.out; have G1 := Lib.hid hg1; clear hg1 hk0)))
    go_ret3
    exact ⟨.slice none 0 0, by simp [someOf, HE.out], by simp only [lastOf]; rw [if_neg (by simpa using HE.out)]; exact ints_nil _, grownBy_trans (World.grownBy_alloc _ _ _) (grownBy_trans G1.out (World.grownBy_alloc _ _ _))⟩

end Go.Proofs.Ytjgddagladmgoaa

namespace Go.Proofs.Ytjgddagladmgoaa
open Go.RowKit

def oneSet : List SideD × List CondD := ([(⟨#[105]⟩, 1, 4)], [])
theorem nameI : nameB ⟨#[105]⟩ = true := by
  have e : containsB resL ⟨#[105]⟩ = false := by rw [resB_eq, ByteArray.toList_eq]; decide
  have a : allOk ⟨#[105]⟩ 1 = true := by decide
  have s : (⟨#[105]⟩ : ByteArray).size = 1 := rfl
  unfold nameB
  rw [s, a, e]
  rfl
theorem oneSet_err : setErr oneSet = 0 := by
  have h : sidesErr [] oneSet.1 = 0 := by
    simp only [oneSet, sidesErr, nameI]
    simp [containsB, sideBad, inB]
  rw [setErr_4 (by decide) h (by decide) rfl]
  decide
theorem oneSet_count : countOf oneSet = 4 := by
  unfold countOf
  rw [oneSet_err]
  simp [oneSet, pointsFrom, rangeI, pointB, insideB, inB, List.range_succ]

theorem oneSet_at (w : World) : SetAt (w.alloc (.cells #[.string ⟨#[105]⟩, .int .i64 1, .int .i64 4] 54)) (.slice (some ⟨w.heap.size, 0, none⟩) 1 1) (.slice none 0 0) oneSet := by
  refine ⟨⟨_, 1, rfl, ⟨by decide, by decide⟩, fun j s hj => ?_⟩, ⟨none, 0, rfl, by decide, fun j f hj => by simp [oneSet] at hj⟩⟩
  cases j with
  | zero =>
    simp [oneSet] at hj
    subst hj
    exact ⟨w.heap.size, 0, rfl, by decide, ⟨by decide, by decide⟩, ⟨by decide, by decide⟩, by simp, by simp, by simp⟩
  | succ j => simp [oneSet] at hj

set_option maxHeartbeats 1000000 in
theorem counted_any (w : World) : Calls Try.prog 19 #[] w (Gives (.bool true) w) := by
  have HC := Lib.hid (count_any oneSet _ _ _ (oneSet_at w))
  rw [oneSet_err, oneSet_count] at HC
  go_enter Try.func19, Try.ntmps19
  go_wp2_with (go_at_call 8; go_must (refine HC.out.mono ?_; rintro e w1 ⟨rfl, hg⟩; have HG := Lib.hid hg; clear hg))
  go_ret
  exact ⟨rfl, grownBy_trans (World.grownBy_alloc _ _ _) HG.out⟩


attribute [local go_sem ↓] Go.wp_at_zero Go.wp_at_succ

theorem stream_start {w : World} {L : Value} (hL : ListAt w w.heap.size L) : StreamAt (w.alloc (.cells #[L, .int .i64 0] 25)) w.heap.size 0 :=
  ⟨L, 0, Nat.le_refl _, heap_alloc_new _ _, hL.kept (World.grownBy_alloc _ _ _)⟩

def ASetOk : Prop := ∀ (B m : Nat) (w : World), StreamAt w B m → m ≤ 1000000 → Calls Try.prog 4 #[.pointer (some ⟨B, 0, none⟩)] w (ASetPost B (m + 1000) w)

theorem countOf_bad {S : List SideD × List CondD} (h : setErr S ≠ 0) : countOf S = 0 := by simp [countOf, h]
theorem pointsErr_bad {S : List SideD × List CondD} (h : setErr S ≠ 0) : pointsErr S = setErr S := by simp [pointsErr, h]
theorem pointsOf_bad {S : List SideD × List CondD} (h : setErr S ≠ 0) : pointsOf S = [] := by unfold pointsOf; rw [pointsErr_bad h]; simp [h]
theorem someOf_bad {S : List SideD × List CondD} (h : setErr S ≠ 0) : someOf S = false := by simp [someOf, h]
theorem headOf_bad {S : List SideD × List CondD} (h : setErr S ≠ 0) : headOf S = [] := by simp [headOf, h]
theorem lastOf_bad {S : List SideD × List CondD} (h : setErr S ≠ 0) : lastOf S = [] := by simp [lastOf, h]
theorem hasErr_bad {S : List SideD × List CondD} {xs : List Int} (h : setErr S ≠ 0) : hasErr S xs = setErr S := by simp [hasErr, h]
theorem hasOf_bad {S : List SideD × List CondD} {xs : List Int} (h : setErr S ≠ 0) : hasOf S xs = false := by unfold hasOf; rw [hasErr_bad h]; simp [h]
theorem first2_bad {E x : Int} (h : E ≠ 0) : first2 E x = E := by simp [first2, h]

theorem errs_at (a b : Int) (w : World) : Calls Try.prog 12 #[.slice (some ⟨w.heap.size, 0, none⟩) 2 2] (w.alloc (.cells #[.int .i64 a, .int .i64 b] 32)) (fun e w' => e = .returned (.int .i64 (first2 a b)) ∧ w.grownBy w' none) :=
  (errs_two a b w).mono fun _ _ h => ⟨h.1, h.2 ▸ World.grownBy_alloc _ _ _⟩

theorem sameRows_self (xs : List (List Int)) : sameRows xs xs = true := by simp [sameRows]
theorem sameInts_self (xs : List Int) : sameInts xs xs = true := by simp [sameInts]
theorem first2_zero (x : Int) : first2 0 x = x := rfl
theorem boxed {S : List SideD × List CondD} {PS : List (List Int)} (h : setErr S = 0) (e : pointsFrom S [] S.1 = PS) : PS.length ≤ 200000 := by
  cases hne : emptyB S.1
  · rw [← e]
    exact Nat.le_trans (pointsFrom_length S S.1 []) (box_ok h hne)
  · rw [← e, points_empty S S.1 [] hne]
    simp

theorem top_grown {w w1 w2 : World} {o x : Obj} (h : (w.alloc o).grownBy w1 (some w.heap.size)) (k : (w1.alloc x).grownBy w2 (some w.heap.size)) : w.grownBy w2 none :=
  grown_own (World.grownBy_alloc w o none) (grownBy_trans h (grownBy_trans (World.grownBy_alloc _ _ _) k)) (fun k hk => by cases hk; exact Nat.le_refl _)

/-- What stands when all is drawn: the set's box, the set, the numbers. -/
structure Ready2 (w2 : World) (A : Nat) (sv cv xv : Value) (S : List SideD × List CondD) (xs : List Int) : Prop where
  box : w2.heap[A]? = some (.cells #[sv, cv] 29 (0, 0))
  set : SetAt w2 sv cv S
  ints : IntsAt w2 xv xs
theorem Ready2.kept {w2 w3 : World} {A : Nat} {sv cv xv : Value} {S : List SideD × List CondD} {xs : List Int} (h : Ready2 w2 A sv cv xv S xs) (hg : w2.grownBy w3 none) : Ready2 w3 A sv cv xv S xs := ⟨heap_keep h.box hg (by simp), h.set.kept hg, h.ints.kept hg⟩
theorem Ready2.b0 {w2 : World} {A : Nat} {sv cv xv : Value} {S : List SideD × List CondD} {xs : List Int} (h : Ready2 w2 A sv cv xv S xs) : w2.cell? ⟨A, 0, none⟩ = some sv := by simp [World.cell?, h.box]
theorem Ready2.b1 {w2 : World} {A : Nat} {sv cv xv : Value} {S : List SideD × List CondD} {xs : List Int} (h : Ready2 w2 A sv cv xv S xs) : w2.cell? ⟨A, 1, none⟩ = some cv := by simp [World.cell?, h.box]

set_option maxRecDepth 100000 in
set_option maxHeartbeats 8000000 in
theorem setsListed_any (hA : ASetOk) (L : Value) (w : World) (hL : ListAt w w.heap.size L) :
    Calls Try.prog 3 #[L] w (Gives (.bool true) w) := by
  have HSt := Lib.hid (stream_start hL)
  obtain ⟨pL, nL, cL, rfl⟩ : ∃ p n c, L = .slice p n c := by rcases hL with h | ⟨b, off, len, cap, h, _⟩ <;> exact ⟨_, _, _, h⟩
  have HA := Lib.hid hA
  clear hL hA
  go_enter Try.func3, Try.ntmps3
  go_upto_region 4 with (first
    | (go_at_call 4; go_must (refine (HA.out w.heap.size 0 _ HSt.out (by omega)).mono ?_; rintro e w1 ⟨sv, cv, S, rfl, hset, hS100, hd⟩; obtain ⟨⟨p, cap, rfl, ⟨hl, hlc⟩, _⟩, ⟨pc, ccap, rfl, hcl, _⟩⟩ := hset w1 (grownBy_refl _ _); have HSet := Lib.hid hset; have HD := Lib.hid hd; have hlt := HSt.out.lt; have hs1 := hd.1.size; clear hset hd))
    | (go_at_call 5; go_must (refine (values_any w.heap.size (0 + 1000) S.1.length _ (stream_alloc HD.out.2 _) (by omega) hS100).mono ?_; rintro e w2 ⟨xv, xs, rfl, hx, hx1000, hd2⟩; obtain ⟨px, xcap, rfl, hxl, _⟩ := id hx; have HR := Lib.hid (Ready2.mk (A := w1.heap.size) (heap_keep (heap_alloc_new w1 (.cells #[.slice p S.1.length cap, .slice pc S.2.length ccap] 29)) hd2.1 (by simp; simp at hs1; omega)) (HSet.out w2 (grownBy_trans (World.grownBy_alloc _ _ _) hd2.1)) hx); have HG := Lib.hid (top_grown HD.out.1 hd2.1); have b0 := HR.out.b0; have b1 := HR.out.b1; clear hx hd2)))
  by_cases hE : setErr S = 0
  case neg =>
    have HE := Lib.hid hE
    have hE0 : (setErr S == 0) = false := by simpa using hE
    have hE1 : (setErr S != 0) = true := by simpa using hE
    have G2 := Lib.hid (grownBy_refl w2 none)
    have tok1 : True := trivial
    clear hE
    go_wp2_with (first
    | (go_at_call 6; go_must (refine (setFault_any S _ _ _ (HR.out.kept G2.out).set).mono ?_; rintro e w3 ⟨rfl, hg⟩; have K2 := Lib.hid hg; have G3 := Lib.hid (grownBy_trans G2.out hg); have b0 := (HR.out.kept G3.out).b0; have b1 := (HR.out.kept G3.out).b1; clear hg))
    | (go_at_call 7; go_must (refine (has_any S _ _ _ xs _ (HR.out.kept G3.out).set (HR.out.kept G3.out).ints).mono ?_; rintro e w4 ⟨rfl, hg⟩; rw [hasErr_bad HE.out, hasOf_bad HE.out]; have K3 := Lib.hid hg; have G4 := Lib.hid (grownBy_trans G3.out hg); have b0 := (HR.out.kept G4.out).b0; have b1 := (HR.out.kept G4.out).b1; clear hg))
    | (go_at_call 8; go_must (refine (count_any S _ _ _ (HR.out.kept G4.out).set).mono ?_; rintro e w5 ⟨rfl, hg⟩; rw [countOf_bad HE.out]; have K4 := Lib.hid hg; have G5 := Lib.hid (grownBy_trans G4.out hg); have b0 := (HR.out.kept G5.out).b0; have b1 := (HR.out.kept G5.out).b1; clear hg))
    | (go_at_call 9; go_must (refine (points_any S _ _ _ (HR.out.kept G5.out).set).mono ?_; rintro e w6 ⟨pv, rfl, hpv, hg⟩; rw [pointsErr_bad HE.out]; rw [pointsOf_bad HE.out] at hpv; have HPv := Lib.hid hpv; clear hpv; have K5 := Lib.hid hg; have G6 := Lib.hid (grownBy_trans G5.out hg); have b0 := (HR.out.kept G6.out).b0; have b1 := (HR.out.kept G6.out).b1; clear hg))
    | (go_at_call 10; go_must (refine (least_any S _ _ _ (HR.out.kept G6.out).set).mono ?_; rintro e w7 ⟨lv, rfl, hlv, hg⟩; rw [someOf_bad HE.out]; rw [headOf_bad HE.out] at hlv; have HLv := Lib.hid hlv; clear hlv; have K6 := Lib.hid hg; have G7 := Lib.hid (grownBy_trans G6.out hg); have b0 := (HR.out.kept G7.out).b0; have b1 := (HR.out.kept G7.out).b1; clear hg))
    | (go_at_call 11; go_must (refine (greatest_any S _ _ _ (HR.out.kept G7.out).set).mono ?_; rintro e w8 ⟨gv, rfl, hgv, hg⟩; rw [someOf_bad HE.out]; rw [lastOf_bad HE.out] at hgv; have HGv := Lib.hid hgv; clear hgv; have K7 := Lib.hid hg; have G8 := Lib.hid (grownBy_trans G7.out hg); have b0 := (HR.out.kept G8.out).b0; have b1 := (HR.out.kept G8.out).b1; clear hg))
    | (go_at_call 13; go_must (refine (when_any _ _ _).mono ?_; rintro e w' ⟨rfl, rfl⟩))
    | (go_at_call 12; go_must (refine (errs_at _ _ _).mono ?_; rintro e w9 ⟨rfl, hg⟩; rw [first2_bad HE.out]; have K8 := Lib.hid hg; have G9 := Lib.hid (grownBy_trans G8.out hg); have b0 := (HR.out.kept G9.out).b0; have b1 := (HR.out.kept G9.out).b1; clear hg))
    | (go_at_call 16; go_must (refine (checkSet_any S _ _ _ (HR.out.kept G9.out).set).mono ?_; rintro e w10 ⟨rfl, hg⟩; have K9 := Lib.hid hg; have G10 := Lib.hid (grownBy_trans G9.out hg); have b0 := (HR.out.kept G10.out).b0; have b1 := (HR.out.kept G10.out).b1; clear hg))
    | (go_at_call 17; go_must (refine (sameLists_any _ _ [] [] _ (HPv.out.kept (grownBy_trans K6.out (grownBy_trans K7.out (grownBy_trans K8.out K9.out)))) (rows_nil _)).mono ?_; rintro e w11 ⟨rfl, hg⟩; rw [sameRows_self]; have K10 := Lib.hid hg; have G11 := Lib.hid (grownBy_trans G10.out hg); have b0 := (HR.out.kept G11.out).b0; have b1 := (HR.out.kept G11.out).b1; clear hg))
    | (go_at_call 18; go_must (first | (have _t := tok1; refine (equal_any lv _ [] [] _ (HLv.out.kept (grownBy_trans K7.out (grownBy_trans K8.out (grownBy_trans K9.out K10.out)))) (ints_nil _)).mono ?_; rintro e w12 ⟨rfl, hg⟩; rw [sameInts_self]; have K11 := Lib.hid hg; have G12 := Lib.hid (grownBy_trans G11.out hg); clear hg tok1) | (refine (equal_any gv _ [] [] _ (HGv.out.kept (grownBy_trans K8.out (grownBy_trans K9.out (grownBy_trans K10.out K11.out)))) (ints_nil _)).mono ?_; rintro e w13 ⟨rfl, hg⟩; rw [sameInts_self]; have G13 := Lib.hid (grownBy_trans G12.out hg); clear hg)))
    | (go_at_call 19; go_must (refine (counted_any _).mono ?_; rintro e w14 ⟨rfl, hg⟩; have GZ := Lib.hid (grownBy_trans G13.out hg); clear hg)))
    all_goals
      go_ret
      exact ⟨rfl, grownBy_trans HG.out GZ.out⟩
  case pos =>
    have HE := Lib.hid hE
    have G2 := Lib.hid (grownBy_refl w2 none)
    have tok1 : True := trivial
    obtain ⟨PS, hPS⟩ : ∃ PS, pointsFrom S [] S.1 = PS := ⟨_, rfl⟩
    have HCo := Lib.hid (show countOf S = PS.length by simp [countOf, hE, hPS])
    have HSo := Lib.hid (show someOf S = !PS.isEmpty by simp [someOf, hE, hPS])
    have HHd0 := Lib.hid (show headOf S = PS.head?.getD [] by simp [headOf, hE, hPS])
    have HLa0 := Lib.hid (show lastOf S = PS.getLast?.getD [] by simp [lastOf, hE, hPS])
    have HPe0 := Lib.hid (show pointsErr S = if 5000 < PS.length then 12 else 0 by simp [pointsErr, hE, hPS])
    have HPo0 := Lib.hid (show pointsOf S = if pointsErr S == 0 then PS else [] by unfold pointsOf; rw [hPS])
    have HB := Lib.hid (boxed hE hPS)
    have HPS := Lib.hid hPS
    clear hE hPS
    by_cases hq : xs.length = S.1.length
    · have HHe := Lib.hid (show hasErr S xs = 0 by simp [hasErr, HE.out, hq])
      have HHo := Lib.hid (show hasOf S xs = pointB S xs by simp [hasOf, HHe.out])
      have HL := Lib.hid hq
      have hqb : ((xs.length : Int) != (S.1.length : Int)) = false := by simp [hq]
      clear hq
      by_cases hz : PS = []
      · subst hz
        have HHd := Lib.hid (show headOf S = [] by rw [HHd0.out]; rfl)
        have HLa := Lib.hid (show lastOf S = [] by rw [HLa0.out]; rfl)
        have HPe := Lib.hid (show pointsErr S = 0 by rw [HPe0.out]; rfl)
        have HPo := Lib.hid (show pointsOf S = [] by rw [HPo0.out, HPe.out]; rfl)
        go_wp2_with (first
          | (go_at_call 6; go_must (refine (setFault_any S _ _ _ (HR.out.kept G2.out).set).mono ?_; rintro e w3 ⟨rfl, hg⟩; rw [HE.out]; have K2 := Lib.hid hg; have G3 := Lib.hid (grownBy_trans G2.out hg); have b0 := (HR.out.kept G3.out).b0; have b1 := (HR.out.kept G3.out).b1; clear hg))
          | (go_at_call 7; go_must (refine (has_any S _ _ _ xs _ (HR.out.kept G3.out).set (HR.out.kept G3.out).ints).mono ?_; rintro e w4 ⟨rfl, hg⟩; rw [HHe.out, HHo.out]; have K3 := Lib.hid hg; have G4 := Lib.hid (grownBy_trans G3.out hg); have b0 := (HR.out.kept G4.out).b0; have b1 := (HR.out.kept G4.out).b1; clear hg))
          | (go_at_call 8; go_must (refine (count_any S _ _ _ (HR.out.kept G4.out).set).mono ?_; rintro e w5 ⟨rfl, hg⟩; rw [HCo.out, HE.out]; have K4 := Lib.hid hg; have G5 := Lib.hid (grownBy_trans G4.out hg); have b0 := (HR.out.kept G5.out).b0; have b1 := (HR.out.kept G5.out).b1; clear hg))
          | (go_at_call 9; go_must (refine (points_any S _ _ _ (HR.out.kept G5.out).set).mono ?_; rintro e w6 ⟨pv, rfl, hpv, hg⟩; rw [HPe.out]; rw [HPo.out] at hpv; have HPv := Lib.hid hpv; clear hpv; have K5 := Lib.hid hg; have G6 := Lib.hid (grownBy_trans G5.out hg); have b0 := (HR.out.kept G6.out).b0; have b1 := (HR.out.kept G6.out).b1; clear hg))
          | (go_at_call 10; go_must (refine (least_any S _ _ _ (HR.out.kept G6.out).set).mono ?_; rintro e w7 ⟨lv, rfl, hlv, hg⟩; rw [HSo.out, HE.out]; rw [HHd.out] at hlv; have HLv := Lib.hid hlv; clear hlv; have K6 := Lib.hid hg; have G7 := Lib.hid (grownBy_trans G6.out hg); have b0 := (HR.out.kept G7.out).b0; have b1 := (HR.out.kept G7.out).b1; clear hg))
          | (go_at_call 11; go_must (refine (greatest_any S _ _ _ (HR.out.kept G7.out).set).mono ?_; rintro e w8 ⟨gv, rfl, hgv, hg⟩; rw [HSo.out, HE.out]; rw [HLa.out] at hgv; have HGv := Lib.hid hgv; clear hgv; have K7 := Lib.hid hg; have G8 := Lib.hid (grownBy_trans G7.out hg); have b0 := (HR.out.kept G8.out).b0; have b1 := (HR.out.kept G8.out).b1; clear hg))
          | (go_at_call 13; go_must (refine (when_any _ _ _).mono ?_; rintro e w' ⟨rfl, rfl⟩))
          | (go_at_call 12; go_must (refine (errs_at _ _ _).mono ?_; rintro e w9 ⟨rfl, hg⟩; rw [first2_zero]; have K8 := Lib.hid hg; have G9 := Lib.hid (grownBy_trans G8.out hg); have b0 := (HR.out.kept G9.out).b0; have b1 := (HR.out.kept G9.out).b1; clear hg))
          | (go_at_call 14; go_must (refine (hasIn_any S _ _ _ xs _ (HR.out.kept G9.out).set (HR.out.kept G9.out).ints HE.out HL.out).mono ?_; rintro e w10 ⟨rfl, hg⟩; have K9 := Lib.hid hg; have G10 := Lib.hid (grownBy_trans G9.out hg); have b0 := (HR.out.kept G10.out).b0; have b1 := (HR.out.kept G10.out).b1; clear hg))
          | (go_at_call 15; go_must (refine (pointsIn_any S _ _ _ (HR.out.kept G10.out).set HE.out).mono ?_; rintro e w11 ⟨wv, rfl, hwp, hg⟩; rw [HPS.out] at hwp; obtain ⟨pp, pcap, rfl, hple, hpc⟩ := id hwp; have HWp := Lib.hid hwp; clear hwp hpc; have K10 := Lib.hid hg; have G11 := Lib.hid (grownBy_trans G10.out hg); have b0 := (HR.out.kept G11.out).b0; have b1 := (HR.out.kept G11.out).b1; clear hg))
          | (go_at_call 13; go_must (refine (when_any _ _ _).mono ?_; rintro e w' ⟨rfl, rfl⟩))
          | (go_at_call 16; go_must (refine (checkSet_any S _ _ _ (HR.out.kept G11.out).set).mono ?_; rintro e w12 ⟨rfl, hg⟩; rw [HE.out]; have K11 := Lib.hid hg; have G12 := Lib.hid (grownBy_trans G11.out hg); have b0 := (HR.out.kept G12.out).b0; have b1 := (HR.out.kept G12.out).b1; clear hg))
          | (go_at_call 17; go_must (refine (sameLists_any _ _ [] [] _ (HPv.out.kept (grownBy_trans K6.out (grownBy_trans K7.out (grownBy_trans K8.out (grownBy_trans K9.out (grownBy_trans K10.out K11.out)))))) (HWp.out.kept K11.out)).mono ?_; rintro e w13 ⟨rfl, hg⟩; rw [sameRows_self]; have K12 := Lib.hid hg; have G13 := Lib.hid (grownBy_trans G12.out hg); have b0 := (HR.out.kept G13.out).b0; have b1 := (HR.out.kept G13.out).b1; clear hg))
          | (go_at_call 18; go_must (first | (have _t := tok1; refine (equal_any lv _ [] [] _ (HLv.out.kept (grownBy_trans K7.out (grownBy_trans K8.out (grownBy_trans K9.out (grownBy_trans K10.out (grownBy_trans K11.out K12.out)))))) (ints_nil _)).mono ?_; rintro e w14 ⟨rfl, hg⟩; rw [sameInts_self]; have K13 := Lib.hid hg; have G14 := Lib.hid (grownBy_trans G13.out hg); clear hg tok1) | (refine (equal_any gv _ [] [] _ (HGv.out.kept (grownBy_trans K8.out (grownBy_trans K9.out (grownBy_trans K10.out (grownBy_trans K11.out (grownBy_trans K12.out K13.out)))))) (ints_nil _)).mono ?_; rintro e w15 ⟨rfl, hg⟩; rw [sameInts_self]; have G15 := Lib.hid (grownBy_trans G14.out hg); clear hg)))
          | (go_at_call 19; go_must (refine (counted_any _).mono ?_; rintro e w16 ⟨rfl, hg⟩; have GZ := Lib.hid (grownBy_trans G15.out hg); clear hg)))
        all_goals
          go_ret
          exact ⟨rfl, grownBy_trans HG.out GZ.out⟩
      have hpos : 0 < PS.length := List.length_pos_iff.2 hz
      obtain ⟨P0, hP0⟩ : ∃ x, PS[0]? = some x := ⟨_, List.getElem?_eq_getElem hpos⟩
      obtain ⟨PL, hPL⟩ : ∃ x, PS[PS.length - 1]? = some x := ⟨_, List.getElem?_eq_getElem (by omega)⟩
      have HGet0 := Lib.hid hP0
      have HGetL := Lib.hid hPL
      have HHd := Lib.hid (show headOf S = P0 by rw [HHd0.out, List.head?_eq_getElem?, hP0]; rfl)
      have HLa := Lib.hid (show lastOf S = PL by rw [HLa0.out, List.getLast?_eq_getElem?, hPL]; rfl)
      have he : PS.isEmpty = false := by cases PS with | nil => exact absurd rfl hz | cons _ _ => rfl
      rw [he] at HSo
      clear hz hP0 hPL he
      have hI1 : (0 : Int) < (PS.length : Int) := by omega
      have hI2 : (0 : Int) ≤ (PS.length : Int) - 1 := by omega
      have hI3 : (PS.length : Int) - 1 < (PS.length : Int) := by omega
      have hbx := HB.out
      by_cases hf : PS.length ≤ 5000
      · have HPe := Lib.hid (show pointsErr S = 0 by rw [HPe0.out, if_neg (by omega)])
        have HPo := Lib.hid (show pointsOf S = PS by rw [HPo0.out, HPe.out]; rfl)
        go_wp2_with (first
          | (go_at_call 6; go_must (refine (setFault_any S _ _ _ (HR.out.kept G2.out).set).mono ?_; rintro e w3 ⟨rfl, hg⟩; rw [HE.out]; have K2 := Lib.hid hg; have G3 := Lib.hid (grownBy_trans G2.out hg); have b0 := (HR.out.kept G3.out).b0; have b1 := (HR.out.kept G3.out).b1; clear hg))
          | (go_at_call 7; go_must (refine (has_any S _ _ _ xs _ (HR.out.kept G3.out).set (HR.out.kept G3.out).ints).mono ?_; rintro e w4 ⟨rfl, hg⟩; rw [HHe.out, HHo.out]; have K3 := Lib.hid hg; have G4 := Lib.hid (grownBy_trans G3.out hg); have b0 := (HR.out.kept G4.out).b0; have b1 := (HR.out.kept G4.out).b1; clear hg))
          | (go_at_call 8; go_must (refine (count_any S _ _ _ (HR.out.kept G4.out).set).mono ?_; rintro e w5 ⟨rfl, hg⟩; rw [HCo.out, HE.out]; have K4 := Lib.hid hg; have G5 := Lib.hid (grownBy_trans G4.out hg); have b0 := (HR.out.kept G5.out).b0; have b1 := (HR.out.kept G5.out).b1; clear hg))
          | (go_at_call 9; go_must (refine (points_any S _ _ _ (HR.out.kept G5.out).set).mono ?_; rintro e w6 ⟨pv, rfl, hpv, hg⟩; rw [HPe.out]; rw [HPo.out] at hpv; have HPv := Lib.hid hpv; clear hpv; have K5 := Lib.hid hg; have G6 := Lib.hid (grownBy_trans G5.out hg); have b0 := (HR.out.kept G6.out).b0; have b1 := (HR.out.kept G6.out).b1; clear hg))
          | (go_at_call 10; go_must (refine (least_any S _ _ _ (HR.out.kept G6.out).set).mono ?_; rintro e w7 ⟨lv, rfl, hlv, hg⟩; rw [HSo.out, HE.out]; rw [HHd.out] at hlv; have HLv := Lib.hid hlv; clear hlv; have K6 := Lib.hid hg; have G7 := Lib.hid (grownBy_trans G6.out hg); have b0 := (HR.out.kept G7.out).b0; have b1 := (HR.out.kept G7.out).b1; clear hg))
          | (go_at_call 11; go_must (refine (greatest_any S _ _ _ (HR.out.kept G7.out).set).mono ?_; rintro e w8 ⟨gv, rfl, hgv, hg⟩; rw [HSo.out, HE.out]; rw [HLa.out] at hgv; have HGv := Lib.hid hgv; clear hgv; have K7 := Lib.hid hg; have G8 := Lib.hid (grownBy_trans G7.out hg); have b0 := (HR.out.kept G8.out).b0; have b1 := (HR.out.kept G8.out).b1; clear hg))
          | (go_at_call 13; go_must (refine (when_any _ _ _).mono ?_; rintro e w' ⟨rfl, rfl⟩))
          | (go_at_call 12; go_must (refine (errs_at _ _ _).mono ?_; rintro e w9 ⟨rfl, hg⟩; rw [first2_zero]; have K8 := Lib.hid hg; have G9 := Lib.hid (grownBy_trans G8.out hg); have b0 := (HR.out.kept G9.out).b0; have b1 := (HR.out.kept G9.out).b1; clear hg))
          | (go_at_call 14; go_must (refine (hasIn_any S _ _ _ xs _ (HR.out.kept G9.out).set (HR.out.kept G9.out).ints HE.out HL.out).mono ?_; rintro e w10 ⟨rfl, hg⟩; have K9 := Lib.hid hg; have G10 := Lib.hid (grownBy_trans G9.out hg); have b0 := (HR.out.kept G10.out).b0; have b1 := (HR.out.kept G10.out).b1; clear hg))
          | (go_at_call 15; go_must (refine (pointsIn_any S _ _ _ (HR.out.kept G10.out).set HE.out).mono ?_; rintro e w11 ⟨wv, rfl, hwp, hg⟩; rw [HPS.out] at hwp; obtain ⟨pp, pcap, rfl, hple, hpc⟩ := id hwp; obtain ⟨bq, oq, rv1, rfl, hc1, hi1⟩ := hpc 0 _ HGet0.out; obtain ⟨bq2, oq2, rv2, hbb, hc2, hi2⟩ := hpc _ _ HGetL.out; simp only [Option.some.injEq, Addr.mk.injEq] at hbb; obtain ⟨rfl, rfl, _⟩ := hbb; simp only [Nat.add_zero] at hc1; have HI1 := Lib.hid hi1; have HI2 := Lib.hid hi2; clear hi1 hi2; have HWp := Lib.hid hwp; clear hwp hpc; have K10 := Lib.hid hg; have G11 := Lib.hid (grownBy_trans G10.out hg); have b0 := (HR.out.kept G11.out).b0; have b1 := (HR.out.kept G11.out).b1; clear hg)))
        go_quiet (fail)
        have K11 := Lib.hid (grownBy_drewN w11 nq none)
        have G12 := Lib.hid (grownBy_trans G11.out K11.out)
        have b0 := (HR.out.kept G12.out).b0
        have b1 := (HR.out.kept G12.out).b1
        go_wp2_with (first
          | (go_at_call 13; go_must (refine (when_any _ _ _).mono ?_; rintro e w' ⟨rfl, rfl⟩))
          | (go_at_call 16; go_must (refine (checkSet_any S _ _ _ (HR.out.kept G12.out).set).mono ?_; rintro e w13 ⟨rfl, hg⟩; rw [HE.out]; have K12 := Lib.hid hg; have G13 := Lib.hid (grownBy_trans G12.out hg); have b0 := (HR.out.kept G13.out).b0; have b1 := (HR.out.kept G13.out).b1; clear hg))
          | (go_at_call 17; go_must (refine (sameLists_any _ _ PS PS _ (HPv.out.kept (grownBy_trans K6.out (grownBy_trans K7.out (grownBy_trans K8.out (grownBy_trans K9.out (grownBy_trans K10.out (grownBy_trans K11.out K12.out))))))) (HWp.out.kept (grownBy_trans K11.out K12.out))).mono ?_; rintro e w14 ⟨rfl, hg⟩; rw [sameRows_self]; have K13 := Lib.hid hg; have G14 := Lib.hid (grownBy_trans G13.out hg); have b0 := (HR.out.kept G14.out).b0; have b1 := (HR.out.kept G14.out).b1; clear hg))
          | (go_at_call 18; go_must (first | (have _t := tok1; refine (equal_any lv rv1 P0 P0 _ (HLv.out.kept (grownBy_trans K7.out (grownBy_trans K8.out (grownBy_trans K9.out (grownBy_trans K10.out (grownBy_trans K11.out (grownBy_trans K12.out K13.out))))))) (HI1.out.kept (grownBy_trans K11.out (grownBy_trans K12.out K13.out)))).mono ?_; rintro e w15 ⟨rfl, hg⟩; rw [sameInts_self]; have K14 := Lib.hid hg; have G15 := Lib.hid (grownBy_trans G14.out hg); clear hg tok1) | (refine (equal_any gv rv2 PL PL _ (HGv.out.kept (grownBy_trans K8.out (grownBy_trans K9.out (grownBy_trans K10.out (grownBy_trans K11.out (grownBy_trans K12.out (grownBy_trans K13.out K14.out))))))) (HI2.out.kept (grownBy_trans K11.out (grownBy_trans K12.out (grownBy_trans K13.out K14.out))))).mono ?_; rintro e w16 ⟨rfl, hg⟩; rw [sameInts_self]; have G16 := Lib.hid (grownBy_trans G15.out hg); clear hg)))
          | (go_at_call 19; go_must (refine (counted_any _).mono ?_; rintro e w17 ⟨rfl, hg⟩; have GZ := Lib.hid (grownBy_trans G16.out hg); clear hg)))
        all_goals
          go_ret
          exact ⟨rfl, grownBy_trans HG.out GZ.out⟩
      · have HPe := Lib.hid (show pointsErr S = 12 by rw [HPe0.out, if_pos (by omega)])
        have HPo := Lib.hid (show pointsOf S = [] by rw [HPo0.out, HPe.out]; rfl)
        go_wp2_with (first
          | (go_at_call 6; go_must (refine (setFault_any S _ _ _ (HR.out.kept G2.out).set).mono ?_; rintro e w3 ⟨rfl, hg⟩; rw [HE.out]; have K2 := Lib.hid hg; have G3 := Lib.hid (grownBy_trans G2.out hg); have b0 := (HR.out.kept G3.out).b0; have b1 := (HR.out.kept G3.out).b1; clear hg))
          | (go_at_call 7; go_must (refine (has_any S _ _ _ xs _ (HR.out.kept G3.out).set (HR.out.kept G3.out).ints).mono ?_; rintro e w4 ⟨rfl, hg⟩; rw [HHe.out, HHo.out]; have K3 := Lib.hid hg; have G4 := Lib.hid (grownBy_trans G3.out hg); have b0 := (HR.out.kept G4.out).b0; have b1 := (HR.out.kept G4.out).b1; clear hg))
          | (go_at_call 8; go_must (refine (count_any S _ _ _ (HR.out.kept G4.out).set).mono ?_; rintro e w5 ⟨rfl, hg⟩; rw [HCo.out, HE.out]; have K4 := Lib.hid hg; have G5 := Lib.hid (grownBy_trans G4.out hg); have b0 := (HR.out.kept G5.out).b0; have b1 := (HR.out.kept G5.out).b1; clear hg))
          | (go_at_call 9; go_must (refine (points_any S _ _ _ (HR.out.kept G5.out).set).mono ?_; rintro e w6 ⟨pv, rfl, hpv, hg⟩; rw [HPe.out]; rw [HPo.out] at hpv; have HPv := Lib.hid hpv; clear hpv; have K5 := Lib.hid hg; have G6 := Lib.hid (grownBy_trans G5.out hg); have b0 := (HR.out.kept G6.out).b0; have b1 := (HR.out.kept G6.out).b1; clear hg))
          | (go_at_call 10; go_must (refine (least_any S _ _ _ (HR.out.kept G6.out).set).mono ?_; rintro e w7 ⟨lv, rfl, hlv, hg⟩; rw [HSo.out, HE.out]; rw [HHd.out] at hlv; have HLv := Lib.hid hlv; clear hlv; have K6 := Lib.hid hg; have G7 := Lib.hid (grownBy_trans G6.out hg); have b0 := (HR.out.kept G7.out).b0; have b1 := (HR.out.kept G7.out).b1; clear hg))
          | (go_at_call 11; go_must (refine (greatest_any S _ _ _ (HR.out.kept G7.out).set).mono ?_; rintro e w8 ⟨gv, rfl, hgv, hg⟩; rw [HSo.out, HE.out]; rw [HLa.out] at hgv; have HGv := Lib.hid hgv; clear hgv; have K7 := Lib.hid hg; have G8 := Lib.hid (grownBy_trans G7.out hg); have b0 := (HR.out.kept G8.out).b0; have b1 := (HR.out.kept G8.out).b1; clear hg))
          | (go_at_call 13; go_must (refine (when_any _ _ _).mono ?_; rintro e w' ⟨rfl, rfl⟩))
          | (go_at_call 12; go_must (refine (errs_at _ _ _).mono ?_; rintro e w9 ⟨rfl, hg⟩; rw [first2_zero]; have K8 := Lib.hid hg; have G9 := Lib.hid (grownBy_trans G8.out hg); have b0 := (HR.out.kept G9.out).b0; have b1 := (HR.out.kept G9.out).b1; clear hg))
          | (go_at_call 14; go_must (refine (hasIn_any S _ _ _ xs _ (HR.out.kept G9.out).set (HR.out.kept G9.out).ints HE.out HL.out).mono ?_; rintro e w10 ⟨rfl, hg⟩; have K9 := Lib.hid hg; have G10 := Lib.hid (grownBy_trans G9.out hg); have b0 := (HR.out.kept G10.out).b0; have b1 := (HR.out.kept G10.out).b1; clear hg))
          | (go_at_call 15; go_must (refine (pointsIn_any S _ _ _ (HR.out.kept G10.out).set HE.out).mono ?_; rintro e w11 ⟨wv, rfl, hwp, hg⟩; rw [HPS.out] at hwp; obtain ⟨pp, pcap, rfl, hple, hpc⟩ := id hwp; obtain ⟨bq, oq, rv1, rfl, hc1, hi1⟩ := hpc 0 _ HGet0.out; obtain ⟨bq2, oq2, rv2, hbb, hc2, hi2⟩ := hpc _ _ HGetL.out; simp only [Option.some.injEq, Addr.mk.injEq] at hbb; obtain ⟨rfl, rfl, _⟩ := hbb; simp only [Nat.add_zero] at hc1; have HI1 := Lib.hid hi1; have HI2 := Lib.hid hi2; clear hi1 hi2; have HWp := Lib.hid hwp; clear hwp hpc; have K10 := Lib.hid hg; have G11 := Lib.hid (grownBy_trans G10.out hg); have b0 := (HR.out.kept G11.out).b0; have b1 := (HR.out.kept G11.out).b1; clear hg)))
        go_quiet (fail)
        have K11 := Lib.hid (grownBy_drewN w11 nq none)
        have G12 := Lib.hid (grownBy_trans G11.out K11.out)
        have b0 := (HR.out.kept G12.out).b0
        have b1 := (HR.out.kept G12.out).b1
        go_wp2_with (first
          | (go_at_call 13; go_must (refine (when_any _ _ _).mono ?_; rintro e w' ⟨rfl, rfl⟩))
          | (go_at_call 16; go_must (refine (checkSet_any S _ _ _ (HR.out.kept G12.out).set).mono ?_; rintro e w13 ⟨rfl, hg⟩; rw [HE.out]; have K12 := Lib.hid hg; have G13 := Lib.hid (grownBy_trans G12.out hg); have b0 := (HR.out.kept G13.out).b0; have b1 := (HR.out.kept G13.out).b1; clear hg))
          | (go_at_call 17; go_must (refine (sameLists_any _ _ [] [] _ (HPv.out.kept (grownBy_trans K6.out (grownBy_trans K7.out (grownBy_trans K8.out (grownBy_trans K9.out (grownBy_trans K10.out (grownBy_trans K11.out K12.out))))))) (rows_nil _)).mono ?_; rintro e w14 ⟨rfl, hg⟩; rw [sameRows_self]; have K13 := Lib.hid hg; have G14 := Lib.hid (grownBy_trans G13.out hg); have b0 := (HR.out.kept G14.out).b0; have b1 := (HR.out.kept G14.out).b1; clear hg))
          | (go_at_call 18; go_must (first | (have _t := tok1; refine (equal_any lv rv1 P0 P0 _ (HLv.out.kept (grownBy_trans K7.out (grownBy_trans K8.out (grownBy_trans K9.out (grownBy_trans K10.out (grownBy_trans K11.out (grownBy_trans K12.out K13.out))))))) (HI1.out.kept (grownBy_trans K11.out (grownBy_trans K12.out K13.out)))).mono ?_; rintro e w15 ⟨rfl, hg⟩; rw [sameInts_self]; have K14 := Lib.hid hg; have G15 := Lib.hid (grownBy_trans G14.out hg); clear hg tok1) | (refine (equal_any gv rv2 PL PL _ (HGv.out.kept (grownBy_trans K8.out (grownBy_trans K9.out (grownBy_trans K10.out (grownBy_trans K11.out (grownBy_trans K12.out (grownBy_trans K13.out K14.out))))))) (HI2.out.kept (grownBy_trans K11.out (grownBy_trans K12.out (grownBy_trans K13.out K14.out))))).mono ?_; rintro e w16 ⟨rfl, hg⟩; rw [sameInts_self]; have G16 := Lib.hid (grownBy_trans G15.out hg); clear hg)))
          | (go_at_call 19; go_must (refine (counted_any _).mono ?_; rintro e w17 ⟨rfl, hg⟩; have GZ := Lib.hid (grownBy_trans G16.out hg); clear hg)))
        all_goals
          go_ret
          exact ⟨rfl, grownBy_trans HG.out GZ.out⟩
    · have HHe := Lib.hid (show hasErr S xs = 3 by simp [hasErr, HE.out, hq])
      have HHo := Lib.hid (show hasOf S xs = false by simp [hasOf, HHe.out])
      have hqb : ((xs.length : Int) != (S.1.length : Int)) = true := by simp; omega
      clear hq
      by_cases hz : PS = []
      · subst hz
        have HHd := Lib.hid (show headOf S = [] by rw [HHd0.out]; rfl)
        have HLa := Lib.hid (show lastOf S = [] by rw [HLa0.out]; rfl)
        have HPe := Lib.hid (show pointsErr S = 0 by rw [HPe0.out]; rfl)
        have HPo := Lib.hid (show pointsOf S = [] by rw [HPo0.out, HPe.out]; rfl)
        go_wp2_with (first
          | (go_at_call 6; go_must (refine (setFault_any S _ _ _ (HR.out.kept G2.out).set).mono ?_; rintro e w3 ⟨rfl, hg⟩; rw [HE.out]; have K2 := Lib.hid hg; have G3 := Lib.hid (grownBy_trans G2.out hg); have b0 := (HR.out.kept G3.out).b0; have b1 := (HR.out.kept G3.out).b1; clear hg))
          | (go_at_call 7; go_must (refine (has_any S _ _ _ xs _ (HR.out.kept G3.out).set (HR.out.kept G3.out).ints).mono ?_; rintro e w4 ⟨rfl, hg⟩; rw [HHe.out, HHo.out]; have K3 := Lib.hid hg; have G4 := Lib.hid (grownBy_trans G3.out hg); have b0 := (HR.out.kept G4.out).b0; have b1 := (HR.out.kept G4.out).b1; clear hg))
          | (go_at_call 8; go_must (refine (count_any S _ _ _ (HR.out.kept G4.out).set).mono ?_; rintro e w5 ⟨rfl, hg⟩; rw [HCo.out, HE.out]; have K4 := Lib.hid hg; have G5 := Lib.hid (grownBy_trans G4.out hg); have b0 := (HR.out.kept G5.out).b0; have b1 := (HR.out.kept G5.out).b1; clear hg))
          | (go_at_call 9; go_must (refine (points_any S _ _ _ (HR.out.kept G5.out).set).mono ?_; rintro e w6 ⟨pv, rfl, hpv, hg⟩; rw [HPe.out]; rw [HPo.out] at hpv; have HPv := Lib.hid hpv; clear hpv; have K5 := Lib.hid hg; have G6 := Lib.hid (grownBy_trans G5.out hg); have b0 := (HR.out.kept G6.out).b0; have b1 := (HR.out.kept G6.out).b1; clear hg))
          | (go_at_call 10; go_must (refine (least_any S _ _ _ (HR.out.kept G6.out).set).mono ?_; rintro e w7 ⟨lv, rfl, hlv, hg⟩; rw [HSo.out, HE.out]; rw [HHd.out] at hlv; have HLv := Lib.hid hlv; clear hlv; have K6 := Lib.hid hg; have G7 := Lib.hid (grownBy_trans G6.out hg); have b0 := (HR.out.kept G7.out).b0; have b1 := (HR.out.kept G7.out).b1; clear hg))
          | (go_at_call 11; go_must (refine (greatest_any S _ _ _ (HR.out.kept G7.out).set).mono ?_; rintro e w8 ⟨gv, rfl, hgv, hg⟩; rw [HSo.out, HE.out]; rw [HLa.out] at hgv; have HGv := Lib.hid hgv; clear hgv; have K7 := Lib.hid hg; have G8 := Lib.hid (grownBy_trans G7.out hg); have b0 := (HR.out.kept G8.out).b0; have b1 := (HR.out.kept G8.out).b1; clear hg))
          | (go_at_call 13; go_must (refine (when_any _ _ _).mono ?_; rintro e w' ⟨rfl, rfl⟩))
          | (go_at_call 12; go_must (refine (errs_at _ _ _).mono ?_; rintro e w9 ⟨rfl, hg⟩; rw [first2_zero]; have K8 := Lib.hid hg; have G9 := Lib.hid (grownBy_trans G8.out hg); have b0 := (HR.out.kept G9.out).b0; have b1 := (HR.out.kept G9.out).b1; clear hg))
          | (go_at_call 15; go_must (refine (pointsIn_any S _ _ _ (HR.out.kept G9.out).set HE.out).mono ?_; rintro e w10 ⟨wv, rfl, hwp, hg⟩; rw [HPS.out] at hwp; obtain ⟨pp, pcap, rfl, hple, hpc⟩ := id hwp; have HWp := Lib.hid hwp; clear hwp hpc; have K9 := Lib.hid hg; have G10 := Lib.hid (grownBy_trans G9.out hg); have b0 := (HR.out.kept G10.out).b0; have b1 := (HR.out.kept G10.out).b1; clear hg))
          | (go_at_call 13; go_must (refine (when_any _ _ _).mono ?_; rintro e w' ⟨rfl, rfl⟩))
          | (go_at_call 16; go_must (refine (checkSet_any S _ _ _ (HR.out.kept G10.out).set).mono ?_; rintro e w11 ⟨rfl, hg⟩; rw [HE.out]; have K10 := Lib.hid hg; have G11 := Lib.hid (grownBy_trans G10.out hg); have b0 := (HR.out.kept G11.out).b0; have b1 := (HR.out.kept G11.out).b1; clear hg))
          | (go_at_call 17; go_must (refine (sameLists_any _ _ [] [] _ (HPv.out.kept (grownBy_trans K6.out (grownBy_trans K7.out (grownBy_trans K8.out (grownBy_trans K9.out K10.out))))) (HWp.out.kept K10.out)).mono ?_; rintro e w12 ⟨rfl, hg⟩; rw [sameRows_self]; have K11 := Lib.hid hg; have G12 := Lib.hid (grownBy_trans G11.out hg); have b0 := (HR.out.kept G12.out).b0; have b1 := (HR.out.kept G12.out).b1; clear hg))
          | (go_at_call 18; go_must (first | (have _t := tok1; refine (equal_any lv _ [] [] _ (HLv.out.kept (grownBy_trans K7.out (grownBy_trans K8.out (grownBy_trans K9.out (grownBy_trans K10.out K11.out))))) (ints_nil _)).mono ?_; rintro e w13 ⟨rfl, hg⟩; rw [sameInts_self]; have K12 := Lib.hid hg; have G13 := Lib.hid (grownBy_trans G12.out hg); clear hg tok1) | (refine (equal_any gv _ [] [] _ (HGv.out.kept (grownBy_trans K8.out (grownBy_trans K9.out (grownBy_trans K10.out (grownBy_trans K11.out K12.out))))) (ints_nil _)).mono ?_; rintro e w14 ⟨rfl, hg⟩; rw [sameInts_self]; have G14 := Lib.hid (grownBy_trans G13.out hg); clear hg)))
          | (go_at_call 19; go_must (refine (counted_any _).mono ?_; rintro e w15 ⟨rfl, hg⟩; have GZ := Lib.hid (grownBy_trans G14.out hg); clear hg)))
        all_goals
          go_ret
          exact ⟨rfl, grownBy_trans HG.out GZ.out⟩
      have hpos : 0 < PS.length := List.length_pos_iff.2 hz
      obtain ⟨P0, hP0⟩ : ∃ x, PS[0]? = some x := ⟨_, List.getElem?_eq_getElem hpos⟩
      obtain ⟨PL, hPL⟩ : ∃ x, PS[PS.length - 1]? = some x := ⟨_, List.getElem?_eq_getElem (by omega)⟩
      have HGet0 := Lib.hid hP0
      have HGetL := Lib.hid hPL
      have HHd := Lib.hid (show headOf S = P0 by rw [HHd0.out, List.head?_eq_getElem?, hP0]; rfl)
      have HLa := Lib.hid (show lastOf S = PL by rw [HLa0.out, List.getLast?_eq_getElem?, hPL]; rfl)
      have he : PS.isEmpty = false := by cases PS with | nil => exact absurd rfl hz | cons _ _ => rfl
      rw [he] at HSo
      clear hz hP0 hPL he
      have hI1 : (0 : Int) < (PS.length : Int) := by omega
      have hI2 : (0 : Int) ≤ (PS.length : Int) - 1 := by omega
      have hI3 : (PS.length : Int) - 1 < (PS.length : Int) := by omega
      have hbx := HB.out
      by_cases hf : PS.length ≤ 5000
      · have HPe := Lib.hid (show pointsErr S = 0 by rw [HPe0.out, if_neg (by omega)])
        have HPo := Lib.hid (show pointsOf S = PS by rw [HPo0.out, HPe.out]; rfl)
        go_wp2_with (first
          | (go_at_call 6; go_must (refine (setFault_any S _ _ _ (HR.out.kept G2.out).set).mono ?_; rintro e w3 ⟨rfl, hg⟩; rw [HE.out]; have K2 := Lib.hid hg; have G3 := Lib.hid (grownBy_trans G2.out hg); have b0 := (HR.out.kept G3.out).b0; have b1 := (HR.out.kept G3.out).b1; clear hg))
          | (go_at_call 7; go_must (refine (has_any S _ _ _ xs _ (HR.out.kept G3.out).set (HR.out.kept G3.out).ints).mono ?_; rintro e w4 ⟨rfl, hg⟩; rw [HHe.out, HHo.out]; have K3 := Lib.hid hg; have G4 := Lib.hid (grownBy_trans G3.out hg); have b0 := (HR.out.kept G4.out).b0; have b1 := (HR.out.kept G4.out).b1; clear hg))
          | (go_at_call 8; go_must (refine (count_any S _ _ _ (HR.out.kept G4.out).set).mono ?_; rintro e w5 ⟨rfl, hg⟩; rw [HCo.out, HE.out]; have K4 := Lib.hid hg; have G5 := Lib.hid (grownBy_trans G4.out hg); have b0 := (HR.out.kept G5.out).b0; have b1 := (HR.out.kept G5.out).b1; clear hg))
          | (go_at_call 9; go_must (refine (points_any S _ _ _ (HR.out.kept G5.out).set).mono ?_; rintro e w6 ⟨pv, rfl, hpv, hg⟩; rw [HPe.out]; rw [HPo.out] at hpv; have HPv := Lib.hid hpv; clear hpv; have K5 := Lib.hid hg; have G6 := Lib.hid (grownBy_trans G5.out hg); have b0 := (HR.out.kept G6.out).b0; have b1 := (HR.out.kept G6.out).b1; clear hg))
          | (go_at_call 10; go_must (refine (least_any S _ _ _ (HR.out.kept G6.out).set).mono ?_; rintro e w7 ⟨lv, rfl, hlv, hg⟩; rw [HSo.out, HE.out]; rw [HHd.out] at hlv; have HLv := Lib.hid hlv; clear hlv; have K6 := Lib.hid hg; have G7 := Lib.hid (grownBy_trans G6.out hg); have b0 := (HR.out.kept G7.out).b0; have b1 := (HR.out.kept G7.out).b1; clear hg))
          | (go_at_call 11; go_must (refine (greatest_any S _ _ _ (HR.out.kept G7.out).set).mono ?_; rintro e w8 ⟨gv, rfl, hgv, hg⟩; rw [HSo.out, HE.out]; rw [HLa.out] at hgv; have HGv := Lib.hid hgv; clear hgv; have K7 := Lib.hid hg; have G8 := Lib.hid (grownBy_trans G7.out hg); have b0 := (HR.out.kept G8.out).b0; have b1 := (HR.out.kept G8.out).b1; clear hg))
          | (go_at_call 13; go_must (refine (when_any _ _ _).mono ?_; rintro e w' ⟨rfl, rfl⟩))
          | (go_at_call 12; go_must (refine (errs_at _ _ _).mono ?_; rintro e w9 ⟨rfl, hg⟩; rw [first2_zero]; have K8 := Lib.hid hg; have G9 := Lib.hid (grownBy_trans G8.out hg); have b0 := (HR.out.kept G9.out).b0; have b1 := (HR.out.kept G9.out).b1; clear hg))
          | (go_at_call 15; go_must (refine (pointsIn_any S _ _ _ (HR.out.kept G9.out).set HE.out).mono ?_; rintro e w10 ⟨wv, rfl, hwp, hg⟩; rw [HPS.out] at hwp; obtain ⟨pp, pcap, rfl, hple, hpc⟩ := id hwp; obtain ⟨bq, oq, rv1, rfl, hc1, hi1⟩ := hpc 0 _ HGet0.out; obtain ⟨bq2, oq2, rv2, hbb, hc2, hi2⟩ := hpc _ _ HGetL.out; simp only [Option.some.injEq, Addr.mk.injEq] at hbb; obtain ⟨rfl, rfl, _⟩ := hbb; simp only [Nat.add_zero] at hc1; have HI1 := Lib.hid hi1; have HI2 := Lib.hid hi2; clear hi1 hi2; have HWp := Lib.hid hwp; clear hwp hpc; have K9 := Lib.hid hg; have G10 := Lib.hid (grownBy_trans G9.out hg); have b0 := (HR.out.kept G10.out).b0; have b1 := (HR.out.kept G10.out).b1; clear hg)))
        go_quiet (fail)
        have K10 := Lib.hid (grownBy_drewN w10 nq none)
        have G11 := Lib.hid (grownBy_trans G10.out K10.out)
        have b0 := (HR.out.kept G11.out).b0
        have b1 := (HR.out.kept G11.out).b1
        go_wp2_with (first
          | (go_at_call 13; go_must (refine (when_any _ _ _).mono ?_; rintro e w' ⟨rfl, rfl⟩))
          | (go_at_call 16; go_must (refine (checkSet_any S _ _ _ (HR.out.kept G11.out).set).mono ?_; rintro e w12 ⟨rfl, hg⟩; rw [HE.out]; have K11 := Lib.hid hg; have G12 := Lib.hid (grownBy_trans G11.out hg); have b0 := (HR.out.kept G12.out).b0; have b1 := (HR.out.kept G12.out).b1; clear hg))
          | (go_at_call 17; go_must (refine (sameLists_any _ _ PS PS _ (HPv.out.kept (grownBy_trans K6.out (grownBy_trans K7.out (grownBy_trans K8.out (grownBy_trans K9.out (grownBy_trans K10.out K11.out)))))) (HWp.out.kept (grownBy_trans K10.out K11.out))).mono ?_; rintro e w13 ⟨rfl, hg⟩; rw [sameRows_self]; have K12 := Lib.hid hg; have G13 := Lib.hid (grownBy_trans G12.out hg); have b0 := (HR.out.kept G13.out).b0; have b1 := (HR.out.kept G13.out).b1; clear hg))
          | (go_at_call 18; go_must (first | (have _t := tok1; refine (equal_any lv rv1 P0 P0 _ (HLv.out.kept (grownBy_trans K7.out (grownBy_trans K8.out (grownBy_trans K9.out (grownBy_trans K10.out (grownBy_trans K11.out K12.out)))))) (HI1.out.kept (grownBy_trans K10.out (grownBy_trans K11.out K12.out)))).mono ?_; rintro e w14 ⟨rfl, hg⟩; rw [sameInts_self]; have K13 := Lib.hid hg; have G14 := Lib.hid (grownBy_trans G13.out hg); clear hg tok1) | (refine (equal_any gv rv2 PL PL _ (HGv.out.kept (grownBy_trans K8.out (grownBy_trans K9.out (grownBy_trans K10.out (grownBy_trans K11.out (grownBy_trans K12.out K13.out)))))) (HI2.out.kept (grownBy_trans K10.out (grownBy_trans K11.out (grownBy_trans K12.out K13.out))))).mono ?_; rintro e w15 ⟨rfl, hg⟩; rw [sameInts_self]; have G15 := Lib.hid (grownBy_trans G14.out hg); clear hg)))
          | (go_at_call 19; go_must (refine (counted_any _).mono ?_; rintro e w16 ⟨rfl, hg⟩; have GZ := Lib.hid (grownBy_trans G15.out hg); clear hg)))
        all_goals
          go_ret
          exact ⟨rfl, grownBy_trans HG.out GZ.out⟩
      · have HPe := Lib.hid (show pointsErr S = 12 by rw [HPe0.out, if_pos (by omega)])
        have HPo := Lib.hid (show pointsOf S = [] by rw [HPo0.out, HPe.out]; rfl)
        go_wp2_with (first
          | (go_at_call 6; go_must (refine (setFault_any S _ _ _ (HR.out.kept G2.out).set).mono ?_; rintro e w3 ⟨rfl, hg⟩; rw [HE.out]; have K2 := Lib.hid hg; have G3 := Lib.hid (grownBy_trans G2.out hg); have b0 := (HR.out.kept G3.out).b0; have b1 := (HR.out.kept G3.out).b1; clear hg))
          | (go_at_call 7; go_must (refine (has_any S _ _ _ xs _ (HR.out.kept G3.out).set (HR.out.kept G3.out).ints).mono ?_; rintro e w4 ⟨rfl, hg⟩; rw [HHe.out, HHo.out]; have K3 := Lib.hid hg; have G4 := Lib.hid (grownBy_trans G3.out hg); have b0 := (HR.out.kept G4.out).b0; have b1 := (HR.out.kept G4.out).b1; clear hg))
          | (go_at_call 8; go_must (refine (count_any S _ _ _ (HR.out.kept G4.out).set).mono ?_; rintro e w5 ⟨rfl, hg⟩; rw [HCo.out, HE.out]; have K4 := Lib.hid hg; have G5 := Lib.hid (grownBy_trans G4.out hg); have b0 := (HR.out.kept G5.out).b0; have b1 := (HR.out.kept G5.out).b1; clear hg))
          | (go_at_call 9; go_must (refine (points_any S _ _ _ (HR.out.kept G5.out).set).mono ?_; rintro e w6 ⟨pv, rfl, hpv, hg⟩; rw [HPe.out]; rw [HPo.out] at hpv; have HPv := Lib.hid hpv; clear hpv; have K5 := Lib.hid hg; have G6 := Lib.hid (grownBy_trans G5.out hg); have b0 := (HR.out.kept G6.out).b0; have b1 := (HR.out.kept G6.out).b1; clear hg))
          | (go_at_call 10; go_must (refine (least_any S _ _ _ (HR.out.kept G6.out).set).mono ?_; rintro e w7 ⟨lv, rfl, hlv, hg⟩; rw [HSo.out, HE.out]; rw [HHd.out] at hlv; have HLv := Lib.hid hlv; clear hlv; have K6 := Lib.hid hg; have G7 := Lib.hid (grownBy_trans G6.out hg); have b0 := (HR.out.kept G7.out).b0; have b1 := (HR.out.kept G7.out).b1; clear hg))
          | (go_at_call 11; go_must (refine (greatest_any S _ _ _ (HR.out.kept G7.out).set).mono ?_; rintro e w8 ⟨gv, rfl, hgv, hg⟩; rw [HSo.out, HE.out]; rw [HLa.out] at hgv; have HGv := Lib.hid hgv; clear hgv; have K7 := Lib.hid hg; have G8 := Lib.hid (grownBy_trans G7.out hg); have b0 := (HR.out.kept G8.out).b0; have b1 := (HR.out.kept G8.out).b1; clear hg))
          | (go_at_call 13; go_must (refine (when_any _ _ _).mono ?_; rintro e w' ⟨rfl, rfl⟩))
          | (go_at_call 12; go_must (refine (errs_at _ _ _).mono ?_; rintro e w9 ⟨rfl, hg⟩; rw [first2_zero]; have K8 := Lib.hid hg; have G9 := Lib.hid (grownBy_trans G8.out hg); have b0 := (HR.out.kept G9.out).b0; have b1 := (HR.out.kept G9.out).b1; clear hg))
          | (go_at_call 15; go_must (refine (pointsIn_any S _ _ _ (HR.out.kept G9.out).set HE.out).mono ?_; rintro e w10 ⟨wv, rfl, hwp, hg⟩; rw [HPS.out] at hwp; obtain ⟨pp, pcap, rfl, hple, hpc⟩ := id hwp; obtain ⟨bq, oq, rv1, rfl, hc1, hi1⟩ := hpc 0 _ HGet0.out; obtain ⟨bq2, oq2, rv2, hbb, hc2, hi2⟩ := hpc _ _ HGetL.out; simp only [Option.some.injEq, Addr.mk.injEq] at hbb; obtain ⟨rfl, rfl, _⟩ := hbb; simp only [Nat.add_zero] at hc1; have HI1 := Lib.hid hi1; have HI2 := Lib.hid hi2; clear hi1 hi2; have HWp := Lib.hid hwp; clear hwp hpc; have K9 := Lib.hid hg; have G10 := Lib.hid (grownBy_trans G9.out hg); have b0 := (HR.out.kept G10.out).b0; have b1 := (HR.out.kept G10.out).b1; clear hg)))
        go_quiet (fail)
        have K10 := Lib.hid (grownBy_drewN w10 nq none)
        have G11 := Lib.hid (grownBy_trans G10.out K10.out)
        have b0 := (HR.out.kept G11.out).b0
        have b1 := (HR.out.kept G11.out).b1
        go_wp2_with (first
          | (go_at_call 13; go_must (refine (when_any _ _ _).mono ?_; rintro e w' ⟨rfl, rfl⟩))
          | (go_at_call 16; go_must (refine (checkSet_any S _ _ _ (HR.out.kept G11.out).set).mono ?_; rintro e w12 ⟨rfl, hg⟩; rw [HE.out]; have K11 := Lib.hid hg; have G12 := Lib.hid (grownBy_trans G11.out hg); have b0 := (HR.out.kept G12.out).b0; have b1 := (HR.out.kept G12.out).b1; clear hg))
          | (go_at_call 17; go_must (refine (sameLists_any _ _ [] [] _ (HPv.out.kept (grownBy_trans K6.out (grownBy_trans K7.out (grownBy_trans K8.out (grownBy_trans K9.out (grownBy_trans K10.out K11.out)))))) (rows_nil _)).mono ?_; rintro e w13 ⟨rfl, hg⟩; rw [sameRows_self]; have K12 := Lib.hid hg; have G13 := Lib.hid (grownBy_trans G12.out hg); have b0 := (HR.out.kept G13.out).b0; have b1 := (HR.out.kept G13.out).b1; clear hg))
          | (go_at_call 18; go_must (first | (have _t := tok1; refine (equal_any lv rv1 P0 P0 _ (HLv.out.kept (grownBy_trans K7.out (grownBy_trans K8.out (grownBy_trans K9.out (grownBy_trans K10.out (grownBy_trans K11.out K12.out)))))) (HI1.out.kept (grownBy_trans K10.out (grownBy_trans K11.out K12.out)))).mono ?_; rintro e w14 ⟨rfl, hg⟩; rw [sameInts_self]; have K13 := Lib.hid hg; have G14 := Lib.hid (grownBy_trans G13.out hg); clear hg tok1) | (refine (equal_any gv rv2 PL PL _ (HGv.out.kept (grownBy_trans K8.out (grownBy_trans K9.out (grownBy_trans K10.out (grownBy_trans K11.out (grownBy_trans K12.out K13.out)))))) (HI2.out.kept (grownBy_trans K10.out (grownBy_trans K11.out (grownBy_trans K12.out K13.out))))).mono ?_; rintro e w15 ⟨rfl, hg⟩; rw [sameInts_self]; have G15 := Lib.hid (grownBy_trans G14.out hg); clear hg)))
          | (go_at_call 19; go_must (refine (counted_any _).mono ?_; rintro e w16 ⟨rfl, hg⟩; have GZ := Lib.hid (grownBy_trans G15.out hg); clear hg)))
        all_goals
          go_ret
          exact ⟨rfl, grownBy_trans HG.out GZ.out⟩

end Go.Proofs.Ytjgddagladmgoaa
