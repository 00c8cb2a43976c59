/-
 Least.
-/
import Derived.Test.YtjgddagladmgoaaEachL
import Derived.Test.YtjgddagladmgoaaClone
namespace Go.Proofs.Ytjgddagladmgoaa
open Go.RowKit

theorem owns_low {w : World} {base base' : Nat} {e : TypeId} {size : Nat} {v : Value} {n : Nat} {xs : List Value} (h : w.ownsRow base e size v n xs) (hb : base' ≤ base) : w.ownsRow base' e size v n xs := by
  obtain ⟨a1, a2⟩ := h
  refine ⟨a1, ?_⟩
  rcases a2 with a2 | ⟨g, cap, cur, hv, hb, r⟩
  · exact .inl a2
  · exact .inr ⟨g, cap, cur, hv, by omega, r⟩

/-- What the visits of Least have made: a copy of the last one, or nothing yet. -/
def LeastInv (V Bb : Nat) (d : List (List Int)) (w : World) : Prop :=
  ∃ rv, w.heap[V]? = some (.cells #[rv] 22 (0, 0)) ∧ w.ownsRow (Bb + 1) 3 1 rv (d.getLast?.getD []).length ((d.getLast?.getD []).map (Value.int .i64))
def goNot (_ : List (List Int)) : Bool := false

theorem walkP_not : ∀ (ps : List (List Int)), walkP goNot [] ps = (ps.take 1, ps.isEmpty)
  | [] => rfl
  | p :: r => by simp [walkP, goNot]

theorem least_steady {V Bb : Nat} (h : V < Bb) : Steady Bb (LeastInv V Bb) := by
  rintro d w w' ⟨rv, h1, h2⟩ hg
  refine ⟨rv, heap_keep h1 hg (by simp; omega), h2.kept hg ?_⟩
  cases hb : rv.ownBlock with
  | none => exact .inl rfl
  | some g =>
    refine .inr fun e => ?_
    have := (h2.lt g hb).1
    have := Option.some.inj e
    omega

set_option maxHeartbeats 1000000 in
theorem least_visit {wE : World} {V Bb n : Nat} (hV : V < wE.heap.size) (hn : n ≤ 1000) : VisitOkL wE V (V + 1) Bb n (LeastInv V Bb) goNot := by
  intro d pt w h hb hd
  have hlo := h.lo
  obtain ⟨rv, hh, _⟩ := h.inv
  have hl := h.len
  subst hl
  have hBb : Bb < w.heap.size := (Array.getElem?_eq_some_iff.1 h.buf).1
  have hVw : V < w.heap.size := by omega
  have HCl := Lib.hid (clone_any Bb 0 pt.length pt w hn (fun j x hj => by
    obtain ⟨hj1, rfl⟩ := List.getElem?_eq_some_iff.1 hj
    simp [World.cell?, h.buf, hj1]))
  have HH := Lib.hid hh
  have HS := Lib.hid h
  clear h hh hb
  go_enter Try.func36, Try.ntmps36
  go_wp2_with (first | (go_at_call 35; go_must (refine HCl.out.mono ?_; rintro e w1 ⟨v, rfl, ho, hg1⟩; have h1 := heap_keep HH.out hg1 (by simp); have c1 : w1.cell? ⟨V, 0, none⟩ = some rv := (by simp [World.cell?, h1]); have f1 : w1.frozen? ⟨V, 0, none⟩ = false := (by simp [World.frozen?, h1]); obtain ⟨pv, vcap, rfl⟩ := own_form ho; have HO := Lib.hid ho; have HG := Lib.hid hg1; have H1 := Lib.hid h1; clear ho hg1 h1)))
  go_ret
  have hg := grown_set w1 V 0 (.slice pv pt.length vcap)
  have hk := HS.out.kept (W := w1) (least_steady (by omega)) HG.out
  refine ⟨rfl, hk.framed.more hg (fun k hk => by cases hk; exact .inr ⟨Nat.le_refl _, by omega⟩), hk.lo, hk.hi, heap_keep hk.buf hg (by simp; omega), rfl, .slice pv pt.length vcap, ?_, ?_⟩
  · show (w1.heap.modify V _)[V]? = _
    rw [Array.getElem?_modify, if_pos rfl, H1.out]
    simp
  · simp only [List.getLast?_concat, Option.getD_some]
    refine (owns_low HO.out (by omega)).kept hg ?_
    cases hb : (Value.slice pv pt.length vcap).ownBlock with
    | none => exact .inl rfl
    | some g =>
      refine .inr fun e => ?_
      have := (HO.out.lt g hb).1
      have := Option.some.inj e
      omega

/-- A list of numbers, whether it is one, and an error. -/
def EndPost (pt : List Int) (is : Bool) (err : Int) (w : World) (e : Ending) (w' : World) : Prop :=
  ∃ v, e = .returned (.tuple #[v, .bool is, .int .i64 err]) ∧ IntsAt w' v pt ∧ w.grownBy w' none

def headOf (S : List SideD × List CondD) : List Int := if setErr S == 0 then (pointsFrom S [] S.1).head?.getD [] else []
def someOf (S : List SideD × List CondD) : Bool := setErr S == 0 && !(pointsFrom S [] S.1).isEmpty

theorem ints_nil (w : World) : IntsAt w (.slice none 0 0) [] := ⟨none, 0, rfl, by simp, fun j x hj => by simp at hj⟩

theorem take_last {ps : List (List Int)} : ((ps.take 1).getLast?.getD []) = ps.head?.getD [] := by cases ps <;> rfl

theorem head_good {S : List SideD × List CondD} (h : setErr S = 0) : ((pointsFrom S [] S.1).head?.getD []).length ≤ 1000 ∧ ∀ x ∈ (pointsFrom S [] S.1).head?.getD [], -9223372036854775808 ≤ x ∧ x ≤ 9223372036854775807 := by
  have hp := points_good S S.1 [] (fun s hs => (sides_good [] (set_good h).2.1 s hs).2) (fun x hx => by cases hx)
  have h8 := (set_good h).1
  cases hps : pointsFrom S [] S.1 with
  | nil => simp
  | cons p r =>
    obtain ⟨q1, q2⟩ := hp p (by rw [hps]; exact List.mem_cons_self ..)
    simp only [List.head?_cons, Option.getD_some]
    exact ⟨by simp at q1; omega, fun x hx => by have := q2 x hx; omega⟩

set_option maxHeartbeats 2000000 in
theorem least_any (S : List SideD × List CondD) (sv cv : Value) (w : World) (hS : SetAt w sv cv S) :
    Calls Try.prog 10 #[.agg #[sv, cv]] w (EndPost (headOf S) (someOf S) (setErr S) w) := by
  obtain ⟨⟨p, cap, rfl, ⟨hsl, hscc⟩, hsc⟩, ⟨pc, ccap, rfl, hcl, hcc⟩⟩ := id hS
  have HS := Lib.hid hS
  clear hS hsc hcc
  by_cases hE : setErr S = 0
  · have hE0 : (setErr S != 0) = false := by simp [hE]
    have hn8 := (set_good hE).1
    have HE := Lib.hid hE
    clear hE
    go_enter Try.func10, Try.ntmps10
    go_wp2_with (first
      | (go_at_call 30; go_must (refine (spaceOf_any S _ _ _ (HS.out.kept (World.grownBy_alloc _ _ _))).mono ?_; rintro e w1 ⟨hg1, _, hk0⟩; obtain ⟨kv, rfl, hk1⟩ := hk0 HE.out; clear hk0; obtain ⟨pk, kcap, rfl, hkl, hkc⟩ := id hk1; have G1 := Lib.hid hg1; have K1 := Lib.hid hk1; have HC := Lib.hid (fun (W : World) (hp : w1.grownBy W none) (V : Nat) (hV : w1.heap.size ≤ V) (hV2 : V + 1 = W.heap.size) (h0 : W.heap[V]? = some (.cells #[.slice none 0 0] 22 (0, 0))) => eachL_any S (.slice p S.1.length cap) (.slice pk (rowsOf S).length kcap) V (V + 1) (LeastInv V) goNot w1 W (HS.out.1.kept (grownBy_trans (World.grownBy_alloc _ _ _) hg1)) hk1 HE.out hp hV (by omega) (fun _ => ⟨_, h0, World.ownsRow_nil _ _ _ _⟩) (fun Bb hB => least_steady (by omega)) (fun wE Bb hg hB => least_visit (by have := hg.size; omega) (by omega))); have h0 : ((w1.alloc (.cells #[.slice p S.1.length cap, .slice pk (rowsOf S).length kcap] 71)).alloc (.cells #[.slice none 0 0] 22)).heap[w1.heap.size + 1]? = some (.cells #[.slice none 0 0] 22 (0, 0)) := (by show ((w1.heap.push _).push _)[w1.heap.size + 1]? = _; simp only [Array.getElem?_push, Array.size_push]; rw [if_pos trivial]); have H := Lib.hid (HC.out _ (grownBy_trans (World.grownBy_alloc _ _ _) (World.grownBy_alloc _ _ _)) (w1.heap.size + 1) (by omega) (by simp) h0); unfold fvL at H; clear hg1 hk1 hkc h0 HC))
      | (go_at_call 33; go_must (refine H.out.mono ?_; rintro e w2 ⟨rfl, hf, Bb, _, rv, hi1, hi2⟩; rw [walkP_not] at hi2 ⊢; rw [take_last] at hi2; have HF := Lib.hid hf; have hv : w2.cell? ⟨w1.heap.size + 1, 0, none⟩ = some rv := (by simp [World.cell?, hi1]); have HO := Lib.hid hi2; clear hf hi1 hi2)))
    go_ret3
    obtain ⟨q1, q2⟩ := head_good HE.out
    have hh : headOf S = (pointsFrom S [] S.1).head?.getD [] := by simp [headOf, HE.out]
    refine ⟨rv, by simp [someOf, HE.out], ?_, ?_⟩
    · rw [hh]
      exact ints_of_owns HO.out (by omega) q2
    · exact grownBy_trans (World.grownBy_alloc _ _ _) (grownBy_trans G1.out (HF.out.pre (grownBy_trans (World.grownBy_alloc _ _ _) (World.grownBy_alloc _ _ _)) (by omega)))
  · have hE0 : (setErr S != 0) = true := by simp [hE]
    have HE := Lib.hid hE
    clear hE
    go_enter Try.func10, Try.ntmps10
    go_wp2_with (first
      | (go_at_call 30; go_must (refine (spaceOf_any S _ _ _ (HS.out.kept (World.grownBy_alloc _ _ _))).mono ?_; rintro e w1 ⟨hg1, hk0, _⟩; obtain rfl := hk0 HE.out; have G1 := Lib.hid hg1; clear hg1 hk0)))
    go_ret3
    exact ⟨.slice none 0 0, by simp [someOf, HE.out], by simp only [headOf]; rw [if_neg (by simpa using HE.out)]; exact ints_nil _, grownBy_trans (World.grownBy_alloc _ _ _) (grownBy_trans G1.out (World.grownBy_alloc _ _ _))⟩

end Go.Proofs.Ytjgddagladmgoaa
