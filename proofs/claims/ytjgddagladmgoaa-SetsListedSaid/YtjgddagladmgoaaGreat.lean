/-
 Greatest.
-/
import Derived.Test.YtjgddagladmgoaaEachG
import Derived.Test.YtjgddagladmgoaaCount
import Derived.Test.YtjgddagladmgoaaLeast
import Derived.BigQuiet
namespace Go.Proofs.Ytjgddagladmgoaa
open Go.RowKit

/-- What the visits of Greatest have made: a copy of the last one, and whether there was one. -/
def GreatInv (V Bb : Nat) (d : List (List Int)) (w : World) : Prop :=
  ∃ rv, w.heap[V]? = some (.cells #[rv] 22 (0, 0)) ∧ w.heap[V + 1]? = some (.cells #[.bool (!d.isEmpty)] 4 (0, 0)) ∧ w.ownsRow (Bb + 1) 3 1 rv (d.getLast?.getD []).length ((d.getLast?.getD []).map (Value.int .i64))

theorem great_steady {V Bb : Nat} (h : V + 1 < Bb) : Steady Bb (GreatInv V Bb) := by
  rintro d w w' ⟨rv, h1, h2, h3⟩ hg
  refine ⟨rv, heap_keep h1 hg (by simp; omega), heap_keep h2 hg (by simp; omega), h3.kept hg ?_⟩
  cases hb : rv.ownBlock with
  | none => exact .inl rfl
  | some g =>
    refine .inr fun e => ?_
    have := (h3.lt g hb).1
    have := Option.some.inj e
    omega

/-- The head of a row, to be written anew. -/
theorem owns_head {w : World} {base : Nat} {e : TypeId} {rv : Value} {n : Nat} {xs : List Value} (h : w.ownsRow base e 1 rv n xs) : ∃ p cap, rv = .slice p n cap ∧ w.ownsRow base e 1 (.slice p 0 cap) 0 [] ∧ (Value.slice p 0 cap).ownBlock = rv.ownBlock ∧ (p = none → cap = 0 ∧ n = 0) ∧ (∀ a, p = some a → ∃ g, a = ⟨g, 0, none⟩) := by
  rcases h.2 with ⟨rfl, hz⟩ | ⟨g, cap, cur, rfl, hb, hg, hn, hc, hs, _⟩
  · subst hz
    exact ⟨none, 0, rfl, World.ownsRow_nil _ _ _ _, rfl, fun _ => ⟨rfl, rfl⟩, fun a ha => by cases ha⟩
  · exact ⟨some ⟨g, 0, none⟩, cap, rfl, ⟨rfl, .inr ⟨g, cap, cur, rfl, hb, hg, Nat.zero_le _, hc, hs, by simp⟩⟩, rfl, (fun h => by cases h), (fun a ha => ⟨g, by cases ha; rfl⟩)⟩

theorem great_end {wE w w1 : World} {V Bb n : Nat} {d : List (List Int)} {pt : List Int} {rv pv : Value} (h : FromSt wE w V (V + 1 + 1) Bb n (GreatInv V Bb) d pt) (hV : V + 1 < wE.heap.size) (h1 : w.heap[V]? = some (.cells #[rv] 22 (0, 0))) (h2 : w.heap[V + 1]? = some (.cells #[.bool (!d.isEmpty)] 4 (0, 0)))
    (hb : ∀ k, rv.ownBlock = some k → Bb + 1 ≤ k) (hg : w.grownBy w1 rv.ownBlock) (ho : w1.ownsRow (Bb + 1) 3 1 pv pt.length (pt.map (Value.int .i64))) :
    FromSt wE ((w1.setCell ⟨V, 0, none⟩ pv).setCell ⟨V + 1, 0, none⟩ (.bool true)) V (V + 1 + 1) Bb n (GreatInv V Bb) (d ++ [pt]) pt := by
  have hlo := h.lo
  have g1 := grown_set w1 V 0 pv
  have g2 := grown_set (w1.setCell ⟨V, 0, none⟩ pv) (V + 1) 0 (.bool true)
  have f1 := h.framed.more hg (fun k hk => .inl (by have := hb k hk; omega))
  have f2 := (f1.more g1 (fun k hk => by cases hk; exact .inr ⟨Nat.le_refl _, by omega⟩)).more g2 (fun k hk => by cases hk; exact .inr ⟨by omega, by omega⟩)
  have k1 := heap_keep h1 hg (fun e => by have := hb _ e; omega)
  have k2 := heap_keep h2 hg (fun e => by have := hb _ e; omega)
  have k3 := heap_keep h.buf hg (fun e => by have := hb _ e; omega)
  have k4 : (w1.setCell ⟨V, 0, none⟩ pv).heap[V]? = some (.cells #[pv] 22 (0, 0)) := by
    show (w1.heap.modify V _)[V]? = _
    rw [Array.getElem?_modify, if_pos rfl, k1]
    simp
  have k5 := heap_keep k2 g1 (by simp)
  refine ⟨f2, h.lo, h.hi, heap_keep (heap_keep k3 g1 (by simp; omega)) g2 (by simp; omega), h.len, pv, heap_keep k4 g2 (by simp), ?_, ?_⟩
  · show ((w1.setCell ⟨V, 0, none⟩ pv).heap.modify (V + 1) _)[V + 1]? = _
    rw [Array.getElem?_modify, if_pos rfl, k5]
    simp
  · simp only [List.getLast?_concat, Option.getD_some]
    have hne : ∀ k, k < Bb + 1 → pv.ownBlock = none ∨ pv.ownBlock ≠ some k := fun k hk => by
      cases hb : pv.ownBlock with
      | none => exact .inl rfl
      | some g =>
        refine .inr fun e => ?_
        have := (ho.lt g hb).1
        have := Option.some.inj e
        omega
    exact (ho.kept g1 (hne V (by omega))).kept g2 (hne (V + 1) (by omega))

set_option maxHeartbeats 1000000 in
theorem great_visit {wE : World} {V Bb n : Nat} (hV : V + 1 < wE.heap.size) (hn : n ≤ 1000) : VisitOkG wE V (V + 1 + 1) Bb n (GreatInv V Bb) goOn := by
  intro d pt w h hb hd
  have hlo := h.lo
  obtain ⟨rv, h1, h2, h3⟩ := h.inv
  have hl := h.len
  subst hl
  have hBb : Bb < w.heap.size := (Array.getElem?_eq_some_iff.1 h.buf).1
  obtain ⟨p, cap, rfl, ho0, hob, hnone, hsome⟩ := owns_head h3
  have hc1 : w.cell? ⟨V, 0, none⟩ = some (.slice p (d.getLast?.getD []).length cap) := by simp [World.cell?, h1]
  have HNews := Lib.hid (fun j u (hj : (pt.map (Value.int .i64))[j]? = some u) => show w.cell? ((⟨Bb, 0, none⟩ : Addr).add j) = some u by
    have hadd : (⟨Bb, 0, none⟩ : Addr).add j = ⟨Bb, j, none⟩ := by unfold Addr.add; split <;> simp_all
    rw [hadd]
    have hj' : (pt.map (Value.int .i64)).toArray[j]? = some u := by simpa using hj
    simp [World.cell?, h.buf]
    simpa using hj)
  have HBo := Lib.hid (fun k hk => (h3.lt k hk).1)
  have H1 := Lib.hid h1
  have H2 := Lib.hid h2
  have H0 := Lib.hid ho0
  have HOb := Lib.hid hob
  have HS := Lib.hid h
  obtain ⟨i0, hi, hz0, hz1, hz2⟩ := info_parts Try.infoInt
  clear h hb h1 h2 h3 ho0 hob
  generalize (d.getLast?.getD []).length = ll at *
  cases p with
  | none =>
    obtain ⟨rfl, rfl⟩ := hnone rfl
    clear hnone hsome
    go_enter Try.func37, Try.ntmps37
    go_wp2_with (at_builtin; go_must (refine wpList_append_own _ rfl _ _ 22 rfl (Bb + 1) 3 i0 (.int .i64 0) 1 8 Try.underlying22 hi hz0 hz1 hz2 rfl (by decide) (.slice none 0 0) 0 [] rfl H0.out ⟨Bb, 0, none⟩ pt.length pt.length (pt.map (Value.int .i64)) rfl (by simp) HNews.out (by intro u hu; obtain ⟨x, _, rfl⟩ := List.mem_map.1 hu; rfl) (by unfold maxLen; omega) (by omega) (by omega) ?_; intro v' w1 ho hg _; rw [Nat.zero_add, List.nil_append] at ho; rw [HOb.out] at hg; obtain ⟨pv, vcap, rfl⟩ := own_form ho; have k1 := heap_keep H1.out hg (fun e => by have := HBo.out _ e; omega); have k2 := heap_keep H2.out hg (fun e => by have := HBo.out _ e; omega); have c1 : w1.cell? ⟨V, 0, none⟩ = some (.slice none 0 0) := (by simp [World.cell?, k1]); have f1 : w1.frozen? ⟨V, 0, none⟩ = false := (by simp [World.frozen?, k1]); have c2 : w1.cell? ⟨V + 1, 0, none⟩ = some (.bool (!d.isEmpty)) := (by simp [World.cell?, k2]); have f2 : w1.frozen? ⟨V + 1, 0, none⟩ = false := (by simp [World.frozen?, k2]); have HO := Lib.hid ho; have HG := Lib.hid hg; clear ho hg k1 k2))
    go_ret
    exact ⟨rfl, great_end HS.out hV H1.out H2.out HBo.out HG.out HO.out⟩
  | some a =>
    obtain ⟨g, rfl⟩ := hsome a rfl
    clear hnone hsome
    go_enter Try.func37, Try.ntmps37
    go_wp2_with (at_builtin; go_must (refine wpList_append_own _ rfl _ _ 22 rfl (Bb + 1) 3 i0 (.int .i64 0) 1 8 Try.underlying22 hi hz0 hz1 hz2 rfl (by decide) (.slice (some ⟨g, 0, none⟩) 0 cap) 0 [] rfl H0.out ⟨Bb, 0, none⟩ pt.length pt.length (pt.map (Value.int .i64)) rfl (by simp) HNews.out (by intro u hu; obtain ⟨x, _, rfl⟩ := List.mem_map.1 hu; rfl) (by unfold maxLen; omega) (by omega) (by omega) ?_; intro v' w1 ho hg _; rw [Nat.zero_add, List.nil_append] at ho; rw [HOb.out] at hg; obtain ⟨pv, vcap, rfl⟩ := own_form ho; have k1 := heap_keep H1.out hg (fun e => by have := HBo.out _ e; omega); have k2 := heap_keep H2.out hg (fun e => by have := HBo.out _ e; omega); have c1 : w1.cell? ⟨V, 0, none⟩ = some (.slice (some ⟨g, 0, none⟩) ll cap) := (by simp [World.cell?, k1]); have f1 : w1.frozen? ⟨V, 0, none⟩ = false := (by simp [World.frozen?, k1]); have c2 : w1.cell? ⟨V + 1, 0, none⟩ = some (.bool (!d.isEmpty)) := (by simp [World.cell?, k2]); have f2 : w1.frozen? ⟨V + 1, 0, none⟩ = false := (by simp [World.frozen?, k2]); have HO := Lib.hid ho; have HG := Lib.hid hg; clear ho hg k1 k2))
    go_ret
    exact ⟨rfl, great_end HS.out hV H1.out H2.out HBo.out HG.out HO.out⟩


def lastOf (S : List SideD × List CondD) : List Int := if setErr S == 0 then (pointsFrom S [] S.1).getLast?.getD [] else []

theorem last_good {S : List SideD × List CondD} (h : setErr S = 0) : ((pointsFrom S [] S.1).getLast?.getD []).length ≤ 1000 ∧ ∀ x ∈ (pointsFrom S [] S.1).getLast?.getD [], -9223372036854775808 ≤ x ∧ x ≤ 9223372036854775807 := by
  have hp := points_good S S.1 [] (fun s hs => (sides_good [] (set_good h).2.1 s hs).2) (fun x hx => by cases hx)
  have h8 := (set_good h).1
  cases hps : (pointsFrom S [] S.1).getLast? with
  | none => simp
  | some p =>
    obtain ⟨q1, q2⟩ := hp p (List.mem_of_getLast? hps)
    simp only [Option.getD_some]
    exact ⟨by simp at q1; omega, fun x hx => by have := q2 x hx; omega⟩

set_option maxHeartbeats 2000000 in
theorem greatest_any (S : List SideD × List CondD) (sv cv : Value) (w : World) (hS : SetAt w sv cv S) :
    Calls Try.prog 11 #[.agg #[sv, cv]] w (EndPost (lastOf S) (someOf S) (setErr S) w) := by
  obtain ⟨⟨p, cap, rfl, ⟨hsl, hscc⟩, hsc⟩, ⟨pc, ccap, rfl, hcl, hcc⟩⟩ := id hS
  have HS := Lib.hid hS
  clear hS hsc hcc
  by_cases hE : setErr S = 0
  · have hE0 : (setErr S != 0) = false := by simp [hE]
    have hn8 := (set_good hE).1
    have HE := Lib.hid hE
    clear hE
    go_enter Try.func11, Try.ntmps11
    go_wp2_with (first
      | (go_at_call 30; go_must (refine (spaceOf_any S _ _ _ (HS.out.kept (World.grownBy_alloc _ _ _))).mono ?_; rintro e w1 ⟨hg1, _, hk0⟩; obtain ⟨kv, rfl, hk1⟩ := hk0 HE.out; clear hk0; obtain ⟨pk, kcap, rfl, hkl, hkc⟩ := id hk1; have G1 := Lib.hid hg1; have K1 := Lib.hid hk1; have HC := Lib.hid (fun (W : World) (hp : w1.grownBy W none) (V : Nat) (hV : w1.heap.size ≤ V) (hV2 : V + 1 + 1 = W.heap.size) (h0 : W.heap[V]? = some (.cells #[.slice none 0 0] 22 (0, 0))) (h1 : W.heap[V + 1]? = some (.cells #[.bool false] 4 (0, 0))) => eachG_any S (.slice p S.1.length cap) (.slice pk (rowsOf S).length kcap) V (V + 1 + 1) (GreatInv V) goOn w1 W (HS.out.1.kept (grownBy_trans (World.grownBy_alloc _ _ _) hg1)) hk1 HE.out hp hV (by omega) (fun _ => ⟨_, h0, h1, World.ownsRow_nil _ _ _ _⟩) (fun Bb hB => great_steady (by omega)) (fun wE Bb hg hB => great_visit (by have := hg.size; omega) (by omega))); have h0 : (((w1.alloc (.cells #[.slice p S.1.length cap, .slice pk (rowsOf S).length kcap] 71)).alloc (.cells #[.slice none 0 0] 22)).alloc (.cells #[.bool false] 4)).heap[w1.heap.size + 1]? = some (.cells #[.slice none 0 0] 22 (0, 0)) := (by show (((w1.heap.push _).push _).push _)[w1.heap.size + 1]? = _; simp only [Array.getElem?_push, Array.size_push]; rw [if_neg (by omega), if_pos trivial]); have h1 : (((w1.alloc (.cells #[.slice p S.1.length cap, .slice pk (rowsOf S).length kcap] 71)).alloc (.cells #[.slice none 0 0] 22)).alloc (.cells #[.bool false] 4)).heap[w1.heap.size + 1 + 1]? = some (.cells #[.bool false] 4 (0, 0)) := (by show (((w1.heap.push _).push _).push _)[w1.heap.size + 1 + 1]? = _; simp only [Array.getElem?_push, Array.size_push]; rw [if_pos trivial]); have H := Lib.hid (HC.out _ (grownBy_trans (World.grownBy_alloc _ _ _) (grownBy_trans (World.grownBy_alloc _ _ _) (World.grownBy_alloc _ _ _))) (w1.heap.size + 1) (by omega) (by simp) h0 h1); unfold fvG at H; clear hg1 hk1 hkc h0 h1 HC))
      | (go_at_call 33; go_must (refine H.out.mono ?_; rintro e w2 ⟨rfl, hf, Bb, _, rv, hi1, hi2, hi3⟩; rw [walkP_on, List.nil_append] at hi2 hi3; have HF := Lib.hid hf; have hv : w2.cell? ⟨w1.heap.size + 1, 0, none⟩ = some rv := (by simp [World.cell?, hi1]); have hv2 : w2.cell? ⟨w1.heap.size + 1 + 1, 0, none⟩ = some (.bool (!(pointsFrom S [] S.1).isEmpty)) := (by simp [World.cell?, hi2]); have HO := Lib.hid hi3; clear hf hi1 hi2 hi3)))
    go_quiet (fail)
    go_wp2
    go_ret3
    obtain ⟨q1, q2⟩ := last_good HE.out
    have hh : lastOf S = (pointsFrom S [] S.1).getLast?.getD [] := by simp [lastOf, HE.out]
    refine ⟨rv, by simp [someOf, HE.out], ?_, ?_⟩
    · rw [hh]
      exact (ints_of_owns HO.out (by omega) q2).kept (grownBy_drewN _ _ _)
    · exact grownBy_trans (World.grownBy_alloc _ _ _) (grownBy_trans G1.out (grownBy_trans (HF.out.pre (grownBy_trans (World.grownBy_alloc _ _ _) (grownBy_trans (World.grownBy_alloc _ _ _) (World.grownBy_alloc _ _ _))) (by omega)) (grownBy_drewN _ _ _)))
  · have hE0 : (setErr S != 0) = true := by simp [hE]
    have HE := Lib.hid hE
    clear hE
    go_enter Try.func11, Try.ntmps11
    go_wp2_with (first
      | (go_at_call 30; go_must (refine (spaceOf_any S _ _ _ (HS.out.kept (World.grownBy_alloc _ _ _))).mono ?_; rintro e w1 ⟨hg1, hk0, _⟩; obtain rfl := hk0 HE.out; have G1 := Lib.hid hg1; clear hg1 hk0)))
    go_ret3
    exact ⟨.slice none 0 0, by simp [someOf, HE.out], by simp only [lastOf]; rw [if_neg (by simpa using HE.out)]; exact ints_nil _, grownBy_trans (World.grownBy_alloc _ _ _) (grownBy_trans G1.out (World.grownBy_alloc _ _ _))⟩

end Go.Proofs.Ytjgddagladmgoaa
