/-
 slices.CompactFunc at lists of numbers.
-/
import Derived.Test.YtfilcaolgfghcaaGreatCmp
import Derived.Test.YtfilcaolgfghcaaGreatClear
import Derived.Test.YtfilcaolgfghcaaGreatSpace
namespace Go.Proofs.YtfilcaolgfghcaaGreat
open Go.RowKit
attribute [local go_sem ↓] Go.wp_at_zero Go.wp_at_succ

/-- Values that are lists, whatever is written into block g. -/
def RowsSt (w : World) (g : Nat) (vs : List Value) (L : List (List Int)) : Prop :=
  vs.length = L.length ∧ ∀ (j : Nat) (p : List Int), L[j]? = some p → ∃ rv, vs[j]? = some rv ∧ rv.oneCell' = true ∧ ∀ w', w.grownBy w' (some g) → IntsAt w' rv p

theorem RowsSt.kept {w w' : World} {g : Nat} {vs : List Value} {L : List (List Int)} (h : RowsSt w g vs L) (hg : w.grownBy w' (some g)) : RowsSt w' g vs L :=
  ⟨h.1, fun j p hj => by
    obtain ⟨rv, h1, h2, h3⟩ := h.2 j p hj
    exact ⟨rv, h1, h2, fun w2 h2 => h3 w2 (grownBy_trans hg h2)⟩⟩

theorem compact_take {L : List (List Int)} {m : Nat} {a b : List Int} (h0 : L[m]? = some b) (h1 : L[m + 1]? = some a) : compactL (L.take (m + 1 + 1)) = if a = b then compactL (L.take (m + 1)) else compactL (L.take (m + 1)) ++ [a] := by
  have key : ∀ (r : List (List Int)) (p a : List Int), keepFrom p (r ++ [a]) = if a = (p :: r).getLast (by simp) then keepFrom p r else keepFrom p r ++ [a] := by
    intro r
    induction r with
    | nil => intro p a; by_cases h : a = p <;> simp [keepFrom, h]
    | cons y s ih =>
      intro p a
      simp only [List.cons_append, keepFrom]
      have e : (p :: y :: s).getLast (by simp) = (y :: s).getLast (by simp) := List.getLast_cons (by simp)
      rw [e, ih y a]
      by_cases h : y = p <;> by_cases h2 : a = (y :: s).getLast (by simp) <;> simp [h, h2]
  obtain ⟨hm, rfl⟩ := List.getElem?_eq_some_iff.1 h1
  obtain ⟨hm0, rfl⟩ := List.getElem?_eq_some_iff.1 h0
  rw [List.take_succ_eq_append_getElem hm]
  cases L with
  | nil => simp at hm
  | cons x r =>
    have hl : (x :: r.take m).getLast (by simp) = (x :: r)[m] := by
      rw [List.getLast_eq_getElem]
      have : (x :: r.take m).length - 1 = m := by simp at hm ⊢; omega
      simp only [this]
      have e : (x :: r.take m) = (x :: r).take (m + 1) := rfl
      simp only [e, List.getElem_take]
    have := key (r.take m) x ((x :: r)[m + 1])
    simp only [List.take_succ_cons, List.cons_append, compactL] at this ⊢
    rw [this]
    rw [hl]
    split <;> simp

theorem compact_short {L : List (List Int)} (h : L.length < 2) : compactL L = L := by
  match L, h with
  | [], _ => rfl
  | [x], _ => rfl

def EqTwo (w0 : World) (g i j : Nat) (a b : Value) (r : Bool) (e : Ending) (w' : World) : Prop :=
  e = .returned (.bool r) ∧ Hid (w0.grownBy w' none) ∧ Hid (w'.cell? ⟨g, i, none⟩ = some a ∧ w'.cell? ⟨g, j, none⟩ = some b)
theorem equal_two (w0 w : World) (g i j : Nat) (a b : Value) (xs ys : List Int) (hg : w0.grownBy w none) (hx : IntsAt w0 a xs) (hy : IntsAt w0 b ys) (hc : w.cell? ⟨g, i, none⟩ = some a ∧ w.cell? ⟨g, j, none⟩ = some b) :
    Calls Tryz.prog 60 #[a, b] w (EqTwo w0 g i j a b (sameInts xs ys)) := by
  refine (equal_any a b xs ys w (hx.kept hg) (hy.kept hg)).mono ?_
  rintro e w' ⟨rfl, hg2⟩
  exact ⟨rfl, grownBy_trans hg hg2, hg2.cell hc.1 (by simp), hg2.cell hc.2 (by simp)⟩

theorem Tryz.zeroInts (w : World) : (zeroValue 22).run Tryz.prog w = .ok (.slice none 0 0) w := by kernel_rfl

/-- What CompactFunc leaves. -/
def CompactPost (P : Nat) (v : Value) (L : List (List Int)) (w : World) (e : Ending) (w' : World) : Prop :=
  ∃ p k cap us, e = .returned (.slice p k cap) ∧ w'.ownsRow P 22 1 (.slice p k cap) k us ∧ (∀ g, p = some ⟨g, 0, none⟩ → RowsSt w' g us (compactL L)) ∧ (compactL L).length = k ∧ w.grownBy w' v.ownBlock

theorem own1_free {w : World} {P : Nat} {e : TypeId} {n cap g : Nat} {xs : List Value} (h : w.ownsRow P e 1 (.slice (some ⟨g, 0, none⟩) n cap) n xs) : n ≤ cap ∧ cap ≤ maxLen ∧ P ≤ g ∧ (∀ j, w.frozen? ⟨g, j, none⟩ = false) ∧ ∃ cur, w.heap[g]? = some (.cells cur e (0, 0)) ∧ cur.size = cap ∧ cur.toList.take n = xs := by
  rcases h.2 with ⟨hv, _⟩ | ⟨g', cap', cur, hv, hb, hg, hn, hc, hs, ht⟩
  · cases hv
  · obtain ⟨hgg, _, rfl⟩ := Value.slice.inj hv
    simp only [Option.some.injEq, Addr.mk.injEq, and_true] at hgg
    subst hgg
    exact ⟨hn, hc, hb, fun j => by simp [World.frozen?, hg], cur, hg, by omega, by simpa using ht⟩

theorem own1_cell {w : World} {P : Nat} {e : TypeId} {n cap g : Nat} {xs : List Value} (h : w.ownsRow P e 1 (.slice (some ⟨g, 0, none⟩) n cap) n xs) {j : Nat} {u : Value} (hj : xs[j]? = some u) : w.cell? ⟨g, j, none⟩ = some u := by
  obtain ⟨g', c', hv, _, k⟩ := own_cell h hj
  obtain ⟨hgg, _, _⟩ := Value.slice.inj hv
  simp only [Option.some.injEq, Addr.mk.injEq, and_true] at hgg
  subst hgg
  exact k

theorem own1_cut {w w' : World} {P g n cap i : Nat} {us : List Value} {cur : Array Value} {e : TypeId} (h : w.ownsRow P e 1 (.slice (some ⟨g, 0, none⟩) n cap) n us) (hi : i ≤ n) (hc : w.heap[g]? = some (.cells cur e (0, 0))) (hp : ClearPost g i cur e w w') :
    w'.ownsRow P e 1 (.slice (some ⟨g, 0, none⟩) i cap) i (us.take i) := by
  obtain ⟨h1, h2, h3, _, cur0, h5, h6, h7⟩ := own1_free h
  rw [hc] at h5
  cases h5
  obtain ⟨cur', k1, k2, k3, _⟩ := hp
  have hl := h.1
  refine ⟨by simp; omega, .inr ⟨g, cap, cur', rfl, h3, k1, by omega, h2, by omega, ?_⟩⟩
  rw [Nat.mul_one, k3, ← h7, List.take_take, Nat.min_eq_left hi]

/-- The row while equal ones are left out: so many are kept, so many are looked at. -/
structure CpSt (w0 w : World) (P g n cap kk m : Nat) (L : List (List Int)) (vs us : List Value) : Prop where
  grown : w0.grownBy w (some g)
  row : w.ownsRow P 22 1 (.slice (some ⟨g, 0, none⟩) n cap) n us
  kept : RowsSt w g (us.take kk) (compactL (L.take m))
  rest : us.drop (m - 1) = vs.drop (m - 1)
  all : RowsSt w g vs L

theorem drop_get {α : Type} {us vs : List α} {a j : Nat} (h : us.drop a = vs.drop a) (hj : a ≤ j) : us[j]? = vs[j]? := by
  have := congrArg (fun l => l[j - a]?) h
  simp only [List.getElem?_drop] at this
  rwa [show a + (j - a) = j by omega] at this

theorem CpSt.skip {w0 w w' : World} {P g n cap kk m : Nat} {L : List (List Int)} {vs us : List Value} (h : CpSt w0 w P g n cap kk (m + 1) L vs us) (hg : w.grownBy w' none) {a : List Int} (h0 : L[m]? = some a) (h1 : L[m + 1]? = some a) : CpSt w0 w' P g n cap kk (m + 1 + 1) L vs us := by
  have hgg := grownBy_any (some g) hg
  refine ⟨grownBy_trans h.grown hgg, owns_kept h.row hg, ?_, ?_, h.all.kept hgg⟩
  · rw [compact_take h0 h1, if_pos rfl]
    exact h.kept.kept hgg
  · have := h.rest
    simp only [Nat.add_sub_cancel] at this ⊢
    have e := congrArg (List.drop 1) this
    rwa [List.drop_drop, List.drop_drop] at e

theorem CpSt.keep {w0 w w' : World} {P g n cap kk m : Nat} {L : List (List Int)} {vs us : List Value} (h : CpSt w0 w P g n cap kk (m + 1) L vs us) (hg : w.grownBy w' none) {a b : List Int} {rv : Value} (h0 : L[m]? = some b) (h1 : L[m + 1]? = some a) (hne : a ≠ b) (hv : vs[m + 1]? = some rv) (hk : kk ≤ m) (hkl : (compactL (L.take (m + 1))).length = kk) :
    CpSt w0 (w'.setCell ⟨g, kk, none⟩ rv) P g n cap (kk + 1) (m + 1 + 1) L vs (us.set kk rv) ∧ (compactL (L.take (m + 1 + 1))).length = kk + 1 := by
  have hgg : w.grownBy (w'.setCell ⟨g, kk, none⟩ rv) (some g) := grownBy_trans (grownBy_any _ hg) (grown_set _ _ _ _)
  have hlu := h.row.1
  have hvl := h.all.1
  have hml := (List.getElem?_eq_some_iff.1 h1).1
  have hvm := (List.getElem?_eq_some_iff.1 hv).1
  have hdr : us.drop m = vs.drop m := h.rest
  have hul : us.length = vs.length := by
    have := congrArg List.length hdr
    simp at this
    have h2 := h.kept.1
    rw [List.length_take, hkl] at h2
    omega
  have hku : kk < us.length := by omega
  have hc := compact_take h0 h1
  rw [if_neg hne] at hc
  obtain ⟨rv', g1, g2, g3⟩ := h.all.2 (m + 1) a h1
  rw [hv] at g1
  cases g1
  refine ⟨⟨grownBy_trans h.grown hgg, (World.ownsRow.stored (owns_kept h.row hg) kk rv).1, ?_, ?_, h.all.kept hgg⟩, by rw [hc]; simp [hkl]⟩
  · rw [hc]
    have ht : (us.set kk rv).take (kk + 1) = us.take kk ++ [rv] := by
      rw [List.take_succ_eq_append_getElem (by simpa using hku)]
      simp [List.take_set_of_le]
    rw [ht]
    have htl : (us.take kk).length = kk := by rw [List.length_take]; omega
    refine ⟨by rw [List.length_append, List.length_append, List.length_take, hkl, Nat.min_eq_left (by omega)]; rfl, fun j p hj => ?_⟩
    by_cases hjk : j < kk
    · rw [List.getElem?_append_left (by rw [hkl]; exact hjk)] at hj
      obtain ⟨r, r1, r2, r3⟩ := (h.kept.kept hgg).2 j p hj
      exact ⟨r, by rw [List.getElem?_append_left (by rw [htl]; exact hjk)]; exact r1, r2, r3⟩
    · have hj2 : j = kk := by
        have := (List.getElem?_eq_some_iff.1 hj).1
        rw [List.length_append, hkl] at this
        simp at this
        omega
      rw [hj2, List.getElem?_append_right (by rw [hkl]; exact Nat.le_refl _), hkl, Nat.sub_self] at hj
      simp at hj
      subst hj
      exact ⟨rv, by rw [hj2, List.getElem?_append_right (by rw [htl]; exact Nat.le_refl _), htl, Nat.sub_self]; rfl, g2, fun w2 h2 => g3 w2 (grownBy_trans hgg h2)⟩
  · simp only [Nat.add_sub_cancel]
    have e : (us.set kk rv).drop (m + 1) = us.drop (m + 1) := by rw [List.drop_set_of_lt (by omega)]
    rw [e]
    have e2 := congrArg (List.drop 1) hdr
    rwa [List.drop_drop, List.drop_drop] at e2

set_option maxRecDepth 100000 in
set_option maxHeartbeats 4000000 in
theorem compact_any (P g n cap : Nat) (L : List (List Int)) (vs : List Value) (w : World) (hn : L.length = n) (hl : n ≤ 1000000) (h : w.ownsRow P 22 1 (.slice (some ⟨g, 0, none⟩) n cap) n vs) (hr : RowsSt w g vs L) :
    Calls Tryz.prog 87 #[.slice (some ⟨g, 0, none⟩) n cap, .func (.func 60) #[] #[]] w (CompactPost P (.slice (some ⟨g, 0, none⟩) n cap) L w) := by
  obtain ⟨f1, f2, f3, f4, _⟩ := own1_free h
  have H := Lib.hid h
  have HR := Lib.hid hr
  have HN := Lib.hid hn
  clear h hr hn
  by_cases hn2 : n < 2
  · have hI : (n : Int) < 2 := by omega
    go_enter Tryz.func87, Tryz.ntmps87
    go_wp2
    go_ret
    have hc : compactL L = L := compact_short (by rw [HN.out]; exact hn2)
    exact ⟨_, _, _, vs, rfl, H.out, fun g' hg' => by cases hg'; rw [hc]; exact HR.out, by rw [hc]; exact HN.out, grownBy_refl _ _⟩
  have hI : ¬ (n : Int) < 2 := by omega
  go_enter Tryz.func87, Tryz.ntmps87
  go_wp2
  go_loopw [5] (fun i wr => ∃ m : Nat, m + 1 ≤ n ∧ i = .int .i64 ((m : Int) + 1) ∧ Hid (compactL (L.take (m + 1)) = L.take (m + 1)) ∧ Hid (w.grownBy wr none)) (fun i _ => n - (intOf i).toNat)
  case atStart => exact ⟨0, by omega, rfl, compact_short (by simp; omega), grownBy_refl _ _⟩
  case round =>
    obtain ⟨m, hk, rfl, HC, HG⟩ := hrel
    by_cases hlt : m + 1 < n
    · have hI5 : (0 : Int) ≤ (m : Int) + 1 := by omega
      have h0 := List.getElem?_eq_getElem (l := L) (i := m) (by rw [HN.out]; omega)
      have h1 := List.getElem?_eq_getElem (l := L) (i := m + 1) (by rw [HN.out]; omega)
      have HH0 := Lib.hid h0
      have HH1 := Lib.hid h1
      obtain ⟨rv0, v0, o0, i0⟩ := HR.out.2 _ _ h0
      obtain ⟨rv1, v1, o1, i1⟩ := HR.out.2 _ _ h1
      have c0 := (own1_cell (owns_kept H.out HG.out) v0)
      have c1 := (own1_cell (owns_kept H.out HG.out) v1)
      have I0 := Lib.hid (i0 wr (grownBy_any _ HG.out))
      have I1 := Lib.hid (i1 wr (grownBy_any _ HG.out))
      obtain ⟨p0, d0, rfl, _, _⟩ := id (i0 wr (grownBy_any _ HG.out))
      obtain ⟨p1, d1, rfl, _, _⟩ := id (i1 wr (grownBy_any _ HG.out))
      have hs0 : ((m : Int) + 1) - 1 = (m : Int) := by omega
      have hw1 := IntWalk.i64_in ((m : Int) + 1 - 1) (by omega)
      have hw2 := IntWalk.i64_in (m : Int) (by omega)
      have hI2 : (m : Int) < (n : Int) := by omega
      have hI3 : (0 : Int) ≤ (m : Int) := by omega
      have hI4 : (m : Int) + 1 < (n : Int) := by omega
      generalize L[m]'(by rw [HN.out]; omega) = y at *
      generalize L[m + 1]'(by rw [HN.out]; omega) = x at *
      clear h0 h1 v0 i0 i1 o0 o1
      obtain ⟨bv, hbv⟩ : ∃ b, sameInts x y = b := ⟨_, rfl⟩
      have HSm := Lib.hid hbv
      clear hbv
      go_wp2
      go_region_held3 (fun w' => w'.cell? ⟨g, m + 1, none⟩ = some (.slice p1 x.length d1) ∧ w'.cell? ⟨g, m, none⟩ = some (.slice p0 y.length d0)) (first | go_keep | exact HB1.out)
        (first
          | (go_at_call 60; refine (equal_two wr _ g (m + 1) m _ _ x y (grown_d _ _) I1.out I0.out ⟨c1, c0⟩).mono ?_; rintro e w2 ⟨rfl, HG2, HB1⟩; rw [HSm.out]))
      have hwm1 := IntWalk.i64_in ((m : Int) + 1 + 1) (by omega)
      cases bv
      · have HX := Lib.hid (show x ≠ y by have h := HSm.out; simpa [sameInts] using h)
        go_wp2
        go_roundw
        case rel =>
          refine ⟨m + 1, by omega, by go_num, ?_, grownBy_trans HG.out HG2.out⟩
          show _ = _
          obtain ⟨hm, e⟩ := List.getElem?_eq_some_iff.1 HH1.out
          rw [compact_take HH0.out HH1.out, if_neg HX.out, HC.out, List.take_succ_eq_append_getElem hm, e]
        case measure => simp [intOf]; omega
      · have hxy : x = y := by have h := HSm.out; simpa [sameInts] using h
        subst hxy
        have HS0 : Hid (CpSt w w2 P g n cap (m + 1) (m + 1 + 0 + 1) L vs vs) := by
          refine ⟨grownBy_any _ (grownBy_trans HG.out HG2.out), owns_kept H.out (grownBy_trans HG.out HG2.out), ?_, rfl, HR.out.kept (grownBy_any _ (grownBy_trans HG.out HG2.out))⟩
          rw [Nat.add_zero, compact_take HH0.out HH1.out, if_pos rfl, HC.out]
          have hk0 := HR.out.kept (grownBy_any (some g) (grownBy_trans HG.out HG2.out))
          refine ⟨by simp [hk0.1], fun j p hj => ?_⟩
          rw [List.getElem?_take] at hj
          split at hj
          · obtain ⟨rv, r1, r2, r3⟩ := hk0.2 j p hj
            exact ⟨rv, by rw [List.getElem?_take, if_pos (by assumption)]; exact r1, r2, r3⟩
          · simp at hj
        have HL0 := Lib.hid (show (compactL (L.take (m + 1 + 0 + 1))).length = m + 1 by
          rw [Nat.add_zero, compact_take HH0.out HH1.out, if_pos rfl, HC.out, List.length_take, HN.out]
          omega)
        have hI6 : (m : Int) + 1 ≤ (n : Int) := by omega
        have hI7 : (m : Int) + 1 ≤ (cap : Int) := by omega
        go_wp2
        clear c0 c1 hw1 hw2 hwm1 hs0 hI2 hI3 hI4 hI5
        go_loopw [5, 7] (fun ik iq wr => ∃ (kk q : Nat) (us : List Value), kk ≤ m + 1 + q ∧ m + 1 + q + 1 ≤ n ∧ ik = .int .i64 kk ∧ iq = .int .i64 ((q : Int) + 1) ∧ Hid (CpSt w wr P g n cap kk (m + 1 + q + 1) L vs us) ∧ Hid ((compactL (L.take (m + 1 + q + 1))).length = kk)) (fun _ iq _ => n - (intOf iq).toNat)
        case atStart => exact ⟨m + 1, 0, vs, by omega, by omega, by go_num, rfl, HS0.out, HL0.out⟩
        case round =>
          obtain ⟨kk, q, us, hkq, hqn, rfl, rfl, HCp, HCl⟩ := hrel
          have hwk := IntWalk.i64_in ((kk : Int) + 1) (by omega)
          have hwq := IntWalk.i64_in ((q : Int) + 1 + 1) (by omega)
          have hK0 : (0 : Int) ≤ (kk : Int) := by omega
          have hK1 : (kk : Int) < (n : Int) := by omega
          have hK2 : (kk : Int) ≤ (n : Int) := by omega
          have hK3 : (kk : Int) ≤ (cap : Int) := by omega
          by_cases hlt2 : m + 1 + q + 1 < n
          · have h0 := List.getElem?_eq_getElem (l := L) (i := m + 1 + q) (by rw [HN.out]; omega)
            have h1 := List.getElem?_eq_getElem (l := L) (i := m + 1 + q + 1) (by rw [HN.out]; omega)
            obtain ⟨rv0, v0, o0, i0⟩ := HCp.out.all.2 _ _ h0
            obtain ⟨rv1, v1', o1, i1⟩ := HCp.out.all.2 _ _ h1
            have c0 := own1_cell HCp.out.row ((drop_get HCp.out.rest (j := m + 1 + q) (by omega)).trans v0)
            have c1 : wr.cell? ⟨g, m + 1 + (q + 1), none⟩ = some rv1 := own1_cell HCp.out.row ((drop_get HCp.out.rest (j := m + 1 + q + 1) (by omega)).trans v1')
            have J0 := Lib.hid (i0 wr (grownBy_refl _ _))
            have J1 := Lib.hid (i1 wr (grownBy_refl _ _))
            obtain ⟨t0, e0, rfl, _, _⟩ := id (i0 wr (grownBy_refl _ _))
            obtain ⟨t1, e1, rfl, _, _⟩ := id (i1 wr (grownBy_refl _ _))
            have HH2 := Lib.hid h0
            have HH3 := Lib.hid h1
            have HV1 := Lib.hid v1'
            generalize L[m + 1 + q]'(by rw [HN.out]; omega) = y2 at *
            generalize L[m + 1 + q + 1]'(by rw [HN.out]; omega) = x2 at *
            have hlu := HCp.out.row.1
            obtain ⟨uk, huk⟩ : ∃ u, us[kk]? = some u := ⟨_, List.getElem?_eq_getElem (by omega)⟩
            have ck := own1_cell HCp.out.row huk
            have fk := (own1_free HCp.out.row).2.2.2.1
            have hJ1 : (q : Int) + 1 < ((n - (m + 1) : Nat) : Int) := by omega
            have hJ2 : (q : Int) < ((n - (m + 1) : Nat) : Int) := by omega
            have hJ3 : (0 : Int) ≤ (q : Int) + 1 := by omega
            have hJ4 : (0 : Int) ≤ (q : Int) := by omega
            have hw1 := IntWalk.i64_in ((q : Int) + 1 - 1) (by omega)
            have hw2 := IntWalk.i64_in (q : Int) (by omega)
            obtain ⟨bv2, hbv2⟩ : ∃ b, sameInts x2 y2 = b := ⟨_, rfl⟩
            have HSm2 := Lib.hid hbv2
            clear hbv2 h0 h1 v0 v1' i0 i1 o0 o1 hlu huk
            go_wp2
            go_region_held3 (fun w' => w'.cell? ⟨g, m + 1 + (q + 1), none⟩ = some (.slice t1 x2.length e1) ∧ w'.cell? ⟨g, m + 1 + q, none⟩ = some (.slice t0 y2.length e0)) (first | go_keep | exact HB2.out)
              (first
                | (go_at_call 60; refine (equal_two wr _ g (m + 1 + (q + 1)) (m + 1 + q) _ _ x2 y2 (grown_d _ _) J1.out J0.out ⟨c1, c0⟩).mono ?_; rintro e w6 ⟨rfl, HG6, HB2⟩; rw [HSm2.out]))
            have c1b := HB2.out.1
            have ckb := HG6.out.cell ck (by simp)
            have fkb := (own1_free (owns_kept HCp.out.row HG6.out)).2.2.2.1
            cases bv2
            · have HX := Lib.hid (show x2 ≠ y2 by have h := HSm2.out; simpa [sameInts] using h)
              go_wp2
              go_roundw
              case rel =>
                obtain ⟨k1, k2⟩ := HCp.out.keep HG6.out HH2.out HH3.out HX.out HV1.out hkq HCl.out
                exact ⟨kk + 1, q + 1, us.set kk (.slice t1 x2.length e1), by omega, by omega, by go_num, by go_num, k1, k2⟩
              case measure => simp [intOf]; omega
            · have hxy2 : x2 = y2 := by have h := HSm2.out; simpa [sameInts] using h
              have HXY := Lib.hid hxy2
              clear hxy2
              go_wp2
              go_roundw
              case rel =>
                refine ⟨kk, q + 1, us, by omega, by omega, rfl, by go_num, HCp.out.skip HG6.out HH2.out (by rw [HH3.out, HXY.out]), ?_⟩
                show _ = _
                rw [show m + 1 + (q + 1) + 1 = m + 1 + q + 1 + 1 by omega, compact_take HH2.out HH3.out, if_pos HXY.out]
                exact HCl.out
              case measure => simp [intOf]; omega
          · have hJ1 : ¬ (q : Int) + 1 < ((n - (m + 1) : Nat) : Int) := by omega
            obtain ⟨_, _, _, _, cur, z1, z2, _⟩ := own1_free HCp.out.row
            obtain ⟨w5, hrun, hcp⟩ := run_clear_row (P := Tryz.prog) _ 48 22 0 (.slice none 0 0) 1 Tryz.underlying48 Tryz.zeroInts rfl (by decide) g kk (n - kk) (cap - kk) cur 22 z1 (by omega)
            have HCc := Lib.hid hcp
            have HZ1 := Lib.hid z1
            clear hcp z1
            go_wp2
            go_ret
            have hLn : L.take (m + 1 + q + 1) = L := List.take_of_length_le (by rw [HN.out]; omega)
            obtain ⟨_, _, _, _, hgg⟩ := id HCc.out
            refine ⟨_, _, _, us.take kk, rfl, own1_cut HCp.out.row (by omega) HZ1.out HCc.out, fun g' hg' => ?_, ?_, grownBy_trans HCp.out.grown hgg⟩
            · cases hg'
              have h := HCp.out.kept.kept hgg
              rwa [hLn] at h
            · have h := HCl.out
              rwa [hLn] at h
    · have hI8 : ¬ (m : Int) + 1 < (n : Int) := by omega
      go_wp2
      go_ret
      have hLn : L.take (m + 1) = L := List.take_of_length_le (by rw [HN.out]; omega)
      have hc := HC.out
      rw [hLn] at hc
      exact ⟨_, _, _, vs, rfl, owns_kept H.out HG.out, fun g' hg' => by cases hg'; rw [hc]; exact HR.out.kept (grownBy_any _ HG.out), by rw [hc]; exact HN.out, grownBy_any _ HG.out⟩

end Go.Proofs.YtfilcaolgfghcaaGreat
