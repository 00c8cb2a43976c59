/-
 SetsListed.
-/
import Derived.Test.YtjgddagladmgoaaAPost
import Derived.Test.YtjgddagladmgoaaHasT
import Derived.Test.YtjgddagladmgoaaPointsP
import Derived.Test.YtjgddagladmgoaaGreat
import Derived.Test.YtjgddagladmgoaaCount
import Derived.Test.YtjgddagladmgoaaSame
import Derived.Test.YtjgddagladmgoaaParts
namespace Go.Proofs.Ytjgddagladmgoaa
open Go.RowKit

def oneSet : List SideD × List CondD := ([(⟨#[105]⟩, 1, 4)], [])
theorem nameI : nameB ⟨#[105]⟩ = true := by
  have e : containsB resL ⟨#[105]⟩ = false := by rw [resB_eq, ByteArray.toList_eq]; decide
  have a : allOk ⟨#[105]⟩ 1 = true := by decide
  have s : (⟨#[105]⟩ : ByteArray).size = 1 := rfl
  unfold nameB
  rw [s, a, e]
  rfl
theorem oneSet_err : setErr oneSet = 0 := by
  have h : sidesErr [] oneSet.1 = 0 := by
    simp only [oneSet, sidesErr, nameI]
    simp [containsB, sideBad, inB]
  rw [setErr_4 (by decide) h (by decide) rfl]
  decide
theorem oneSet_count : countOf oneSet = 4 := by
  unfold countOf
  rw [oneSet_err]
  simp [oneSet, pointsFrom, rangeI, pointB, insideB, inB, List.range_succ]

theorem oneSet_at (w : World) : SetAt (w.alloc (.cells #[.string ⟨#[105]⟩, .int .i64 1, .int .i64 4] 54)) (.slice (some ⟨w.heap.size, 0, none⟩) 1 1) (.slice none 0 0) oneSet := by
  refine ⟨⟨_, 1, rfl, ⟨by decide, by decide⟩, fun j s hj => ?_⟩, ⟨none, 0, rfl, by decide, fun j f hj => by simp [oneSet] at hj⟩⟩
  cases j with
  | zero =>
    simp [oneSet] at hj
    subst hj
    exact ⟨w.heap.size, 0, rfl, by decide, ⟨by decide, by decide⟩, ⟨by decide, by decide⟩, by simp, by simp, by simp⟩
  | succ j => simp [oneSet] at hj

set_option maxHeartbeats 1000000 in
theorem counted_any (w : World) : Calls Try.prog 19 #[] w (Gives (.bool true) w) := by
  have HC := Lib.hid (count_any oneSet _ _ _ (oneSet_at w))
  rw [oneSet_err, oneSet_count] at HC
  go_enter Try.func19, Try.ntmps19
  go_wp2_with (go_at_call 8; go_must (refine HC.out.mono ?_; rintro e w1 ⟨rfl, hg⟩; have HG := Lib.hid hg; clear hg))
  go_ret
  exact ⟨rfl, grownBy_trans (World.grownBy_alloc _ _ _) HG.out⟩


attribute [local go_sem ↓] Go.wp_at_zero Go.wp_at_succ

theorem stream_start {w : World} {L : Value} (hL : ListAt w w.heap.size L) : StreamAt (w.alloc (.cells #[L, .int .i64 0] 25)) w.heap.size 0 :=
  ⟨L, 0, Nat.le_refl _, heap_alloc_new _ _, hL.kept (World.grownBy_alloc _ _ _)⟩

def ASetOk : Prop := ∀ (B m : Nat) (w : World), StreamAt w B m → m ≤ 1000000 → Calls Try.prog 4 #[.pointer (some ⟨B, 0, none⟩)] w (ASetPost B (m + 1000) w)

theorem countOf_bad {S : List SideD × List CondD} (h : setErr S ≠ 0) : countOf S = 0 := by simp [countOf, h]
theorem pointsErr_bad {S : List SideD × List CondD} (h : setErr S ≠ 0) : pointsErr S = setErr S := by simp [pointsErr, h]
theorem pointsOf_bad {S : List SideD × List CondD} (h : setErr S ≠ 0) : pointsOf S = [] := by unfold pointsOf; rw [pointsErr_bad h]; simp [h]
theorem someOf_bad {S : List SideD × List CondD} (h : setErr S ≠ 0) : someOf S = false := by simp [someOf, h]
theorem headOf_bad {S : List SideD × List CondD} (h : setErr S ≠ 0) : headOf S = [] := by simp [headOf, h]
theorem lastOf_bad {S : List SideD × List CondD} (h : setErr S ≠ 0) : lastOf S = [] := by simp [lastOf, h]
theorem hasErr_bad {S : List SideD × List CondD} {xs : List Int} (h : setErr S ≠ 0) : hasErr S xs = setErr S := by simp [hasErr, h]
theorem hasOf_bad {S : List SideD × List CondD} {xs : List Int} (h : setErr S ≠ 0) : hasOf S xs = false := by unfold hasOf; rw [hasErr_bad h]; simp [h]
theorem first2_bad {E x : Int} (h : E ≠ 0) : first2 E x = E := by simp [first2, h]

theorem errs_at (a b : Int) (w : World) : Calls Try.prog 12 #[.slice (some ⟨w.heap.size, 0, none⟩) 2 2] (w.alloc (.cells #[.int .i64 a, .int .i64 b] 32)) (fun e w' => e = .returned (.int .i64 (first2 a b)) ∧ w.grownBy w' none) :=
  (errs_two a b w).mono fun _ _ h => ⟨h.1, h.2 ▸ World.grownBy_alloc _ _ _⟩

theorem sameRows_self (xs : List (List Int)) : sameRows xs xs = true := by simp [sameRows]
theorem sameInts_self (xs : List Int) : sameInts xs xs = true := by simp [sameInts]
theorem first2_zero (x : Int) : first2 0 x = x := rfl
theorem boxed {S : List SideD × List CondD} {PS : List (List Int)} (h : setErr S = 0) (e : pointsFrom S [] S.1 = PS) : PS.length ≤ 200000 := by
  cases hne : emptyB S.1
  · rw [← e]
    exact Nat.le_trans (pointsFrom_length S S.1 []) (box_ok h hne)
  · rw [← e, points_empty S S.1 [] hne]
    simp

theorem top_grown {w w1 w2 : World} {o x : Obj} (h : (w.alloc o).grownBy w1 (some w.heap.size)) (k : (w1.alloc x).grownBy w2 (some w.heap.size)) : w.grownBy w2 none :=
  grown_own (World.grownBy_alloc w o none) (grownBy_trans h (grownBy_trans (World.grownBy_alloc _ _ _) k)) (fun k hk => by cases hk; exact Nat.le_refl _)

/-- What stands when all is drawn: the set's box, the set, the numbers. -/
structure Ready2 (w2 : World) (A : Nat) (sv cv xv : Value) (S : List SideD × List CondD) (xs : List Int) : Prop where
  box : w2.heap[A]? = some (.cells #[sv, cv] 29 (0, 0))
  set : SetAt w2 sv cv S
  ints : IntsAt w2 xv xs
theorem Ready2.kept {w2 w3 : World} {A : Nat} {sv cv xv : Value} {S : List SideD × List CondD} {xs : List Int} (h : Ready2 w2 A sv cv xv S xs) (hg : w2.grownBy w3 none) : Ready2 w3 A sv cv xv S xs := ⟨heap_keep h.box hg (by simp), h.set.kept hg, h.ints.kept hg⟩
theorem Ready2.b0 {w2 : World} {A : Nat} {sv cv xv : Value} {S : List SideD × List CondD} {xs : List Int} (h : Ready2 w2 A sv cv xv S xs) : w2.cell? ⟨A, 0, none⟩ = some sv := by simp [World.cell?, h.box]
theorem Ready2.b1 {w2 : World} {A : Nat} {sv cv xv : Value} {S : List SideD × List CondD} {xs : List Int} (h : Ready2 w2 A sv cv xv S xs) : w2.cell? ⟨A, 1, none⟩ = some cv := by simp [World.cell?, h.box]

set_option maxRecDepth 100000 in
set_option maxHeartbeats 8000000 in
theorem setsListed_any (hA : ASetOk) (L : Value) (w : World) (hL : ListAt w w.heap.size L) :
    Calls Try.prog 3 #[L] w (Gives (.bool true) w) := by
  have HSt := Lib.hid (stream_start hL)
  obtain ⟨pL, nL, cL, rfl⟩ : ∃ p n c, L = .slice p n c := by rcases hL with h | ⟨b, off, len, cap, h, _⟩ <;> exact ⟨_, _, _, h⟩
  have HA := Lib.hid hA
  clear hL hA
  go_enter Try.func3, Try.ntmps3
  go_upto_region 4 with (first
    | (go_at_call 4; go_must (refine (HA.out w.heap.size 0 _ HSt.out (by omega)).mono ?_; rintro e w1 ⟨sv, cv, S, rfl, hset, hS100, hd⟩; obtain ⟨⟨p, cap, rfl, ⟨hl, hlc⟩, _⟩, ⟨pc, ccap, rfl, hcl, _⟩⟩ := hset w1 (grownBy_refl _ _); have HSet := Lib.hid hset; have HD := Lib.hid hd; have hlt := HSt.out.lt; have hs1 := hd.1.size; clear hset hd))
    | (go_at_call 5; go_must (refine (values_any w.heap.size (0 + 1000) S.1.length _ (stream_alloc HD.out.2 _) (by omega) hS100).mono ?_; rintro e w2 ⟨xv, xs, rfl, hx, hx1000, hd2⟩; obtain ⟨px, xcap, rfl, hxl, _⟩ := id hx; have HR := Lib.hid (Ready2.mk (A := w1.heap.size) (heap_keep (heap_alloc_new w1 (.cells #[.slice p S.1.length cap, .slice pc S.2.length ccap] 29)) hd2.1 (by simp; simp at hs1; omega)) (HSet.out w2 (grownBy_trans (World.grownBy_alloc _ _ _) hd2.1)) hx); have HG := Lib.hid (top_grown HD.out.1 hd2.1); have b0 := HR.out.b0; have b1 := HR.out.b1; clear hx hd2)))
  by_cases hE : setErr S = 0
  case neg =>
    have HE := Lib.hid hE
    have hE0 : (setErr S == 0) = false := by simpa using hE
    have hE1 : (setErr S != 0) = true := by simpa using hE
    have G2 := Lib.hid (grownBy_refl w2 none)
    have tok1 : True := trivial
    clear hE
    go_wp2_with (first
    | (go_at_call 6; go_must (refine (setFault_any S _ _ _ (HR.out.kept G2.out).set).mono ?_; rintro e w3 ⟨rfl, hg⟩; have K2 := Lib.hid hg; have G3 := Lib.hid (grownBy_trans G2.out hg); have b0 := (HR.out.kept G3.out).b0; have b1 := (HR.out.kept G3.out).b1; clear hg))
    | (go_at_call 7; go_must (refine (has_any S _ _ _ xs _ (HR.out.kept G3.out).set (HR.out.kept G3.out).ints).mono ?_; rintro e w4 ⟨rfl, hg⟩; rw [hasErr_bad HE.out, hasOf_bad HE.out]; have K3 := Lib.hid hg; have G4 := Lib.hid (grownBy_trans G3.out hg); have b0 := (HR.out.kept G4.out).b0; have b1 := (HR.out.kept G4.out).b1; clear hg))
    | (go_at_call 8; go_must (refine (count_any S _ _ _ (HR.out.kept G4.out).set).mono ?_; rintro e w5 ⟨rfl, hg⟩; rw [countOf_bad HE.out]; have K4 := Lib.hid hg; have G5 := Lib.hid (grownBy_trans G4.out hg); have b0 := (HR.out.kept G5.out).b0; have b1 := (HR.out.kept G5.out).b1; clear hg))
    | (go_at_call 9; go_must (refine (points_any S _ _ _ (HR.out.kept G5.out).set).mono ?_; rintro e w6 ⟨pv, rfl, hpv, hg⟩; rw [pointsErr_bad HE.out]; rw [pointsOf_bad HE.out] at hpv; have HPv := Lib.hid hpv; clear hpv; have K5 := Lib.hid hg; have G6 := Lib.hid (grownBy_trans G5.out hg); have b0 := (HR.out.kept G6.out).b0; have b1 := (HR.out.kept G6.out).b1; clear hg))
    | (go_at_call 10; go_must (refine (least_any S _ _ _ (HR.out.kept G6.out).set).mono ?_; rintro e w7 ⟨lv, rfl, hlv, hg⟩; rw [someOf_bad HE.out]; rw [headOf_bad HE.out] at hlv; have HLv := Lib.hid hlv; clear hlv; have K6 := Lib.hid hg; have G7 := Lib.hid (grownBy_trans G6.out hg); have b0 := (HR.out.kept G7.out).b0; have b1 := (HR.out.kept G7.out).b1; clear hg))
    | (go_at_call 11; go_must (refine (greatest_any S _ _ _ (HR.out.kept G7.out).set).mono ?_; rintro e w8 ⟨gv, rfl, hgv, hg⟩; rw [someOf_bad HE.out]; rw [lastOf_bad HE.out] at hgv; have HGv := Lib.hid hgv; clear hgv; have K7 := Lib.hid hg; have G8 := Lib.hid (grownBy_trans G7.out hg); have b0 := (HR.out.kept G8.out).b0; have b1 := (HR.out.kept G8.out).b1; clear hg))
    | (go_at_call 13; go_must (refine (when_any _ _ _).mono ?_; rintro e w' ⟨rfl, rfl⟩))
    | (go_at_call 12; go_must (refine (errs_at _ _ _).mono ?_; rintro e w9 ⟨rfl, hg⟩; rw [first2_bad HE.out]; have K8 := Lib.hid hg; have G9 := Lib.hid (grownBy_trans G8.out hg); have b0 := (HR.out.kept G9.out).b0; have b1 := (HR.out.kept G9.out).b1; clear hg))
    | (go_at_call 16; go_must (refine (checkSet_any S _ _ _ (HR.out.kept G9.out).set).mono ?_; rintro e w10 ⟨rfl, hg⟩; have K9 := Lib.hid hg; have G10 := Lib.hid (grownBy_trans G9.out hg); have b0 := (HR.out.kept G10.out).b0; have b1 := (HR.out.kept G10.out).b1; clear hg))
    | (go_at_call 17; go_must (refine (sameLists_any _ _ [] [] _ (HPv.out.kept (grownBy_trans K6.out (grownBy_trans K7.out (grownBy_trans K8.out K9.out)))) (rows_nil _)).mono ?_; rintro e w11 ⟨rfl, hg⟩; rw [sameRows_self]; have K10 := Lib.hid hg; have G11 := Lib.hid (grownBy_trans G10.out hg); have b0 := (HR.out.kept G11.out).b0; have b1 := (HR.out.kept G11.out).b1; clear hg))
    | (go_at_call 18; go_must (first | (have _t := tok1; refine (equal_any lv _ [] [] _ (HLv.out.kept (grownBy_trans K7.out (grownBy_trans K8.out (grownBy_trans K9.out K10.out)))) (ints_nil _)).mono ?_; rintro e w12 ⟨rfl, hg⟩; rw [sameInts_self]; have K11 := Lib.hid hg; have G12 := Lib.hid (grownBy_trans G11.out hg); clear hg tok1) | (refine (equal_any gv _ [] [] _ (HGv.out.kept (grownBy_trans K8.out (grownBy_trans K9.out (grownBy_trans K10.out K11.out)))) (ints_nil _)).mono ?_; rintro e w13 ⟨rfl, hg⟩; rw [sameInts_self]; have G13 := Lib.hid (grownBy_trans G12.out hg); clear hg)))
    | (go_at_call 19; go_must (refine (counted_any _).mono ?_; rintro e w14 ⟨rfl, hg⟩; have GZ := Lib.hid (grownBy_trans G13.out hg); clear hg)))
    all_goals
      go_ret
      exact ⟨rfl, grownBy_trans HG.out GZ.out⟩
  case pos =>
    have HE := Lib.hid hE
    have G2 := Lib.hid (grownBy_refl w2 none)
    have tok1 : True := trivial
    obtain ⟨PS, hPS⟩ : ∃ PS, pointsFrom S [] S.1 = PS := ⟨_, rfl⟩
    have HCo := Lib.hid (show countOf S = PS.length by simp [countOf, hE, hPS])
    have HSo := Lib.hid (show someOf S = !PS.isEmpty by simp [someOf, hE, hPS])
    have HHd0 := Lib.hid (show headOf S = PS.head?.getD [] by simp [headOf, hE, hPS])
    have HLa0 := Lib.hid (show lastOf S = PS.getLast?.getD [] by simp [lastOf, hE, hPS])
    have HPe0 := Lib.hid (show pointsErr S = if 5000 < PS.length then 12 else 0 by simp [pointsErr, hE, hPS])
    have HPo0 := Lib.hid (show pointsOf S = if pointsErr S == 0 then PS else [] by unfold pointsOf; rw [hPS])
    have HB := Lib.hid (boxed hE hPS)
    have HPS := Lib.hid hPS
    clear hE hPS
    by_cases hq : xs.length = S.1.length
    · have HHe := Lib.hid (show hasErr S xs = 0 by simp [hasErr, HE.out, hq])
      have HHo := Lib.hid (show hasOf S xs = pointB S xs by simp [hasOf, HHe.out])
      have HL := Lib.hid hq
      have hqb : ((xs.length : Int) != (S.1.length : Int)) = false := by simp [hq]
      clear hq
      by_cases hz : PS = []
      · subst hz
        have HHd := Lib.hid (show headOf S = [] by rw [HHd0.out]; rfl)
        have HLa := Lib.hid (show lastOf S = [] by rw [HLa0.out]; rfl)
        have HPe := Lib.hid (show pointsErr S = 0 by rw [HPe0.out]; rfl)
        have HPo := Lib.hid (show pointsOf S = [] by rw [HPo0.out, HPe.out]; rfl)
        go_wp2_with (first
          | (go_at_call 6; go_must (refine (setFault_any S _ _ _ (HR.out.kept G2.out).set).mono ?_; rintro e w3 ⟨rfl, hg⟩; rw [HE.out]; have K2 := Lib.hid hg; have G3 := Lib.hid (grownBy_trans G2.out hg); have b0 := (HR.out.kept G3.out).b0; have b1 := (HR.out.kept G3.out).b1; clear hg))
          | (go_at_call 7; go_must (refine (has_any S _ _ _ xs _ (HR.out.kept G3.out).set (HR.out.kept G3.out).ints).mono ?_; rintro e w4 ⟨rfl, hg⟩; rw [HHe.out, HHo.out]; have K3 := Lib.hid hg; have G4 := Lib.hid (grownBy_trans G3.out hg); have b0 := (HR.out.kept G4.out).b0; have b1 := (HR.out.kept G4.out).b1; clear hg))
          | (go_at_call 8; go_must (refine (count_any S _ _ _ (HR.out.kept G4.out).set).mono ?_; rintro e w5 ⟨rfl, hg⟩; rw [HCo.out, HE.out]; have K4 := Lib.hid hg; have G5 := Lib.hid (grownBy_trans G4.out hg); have b0 := (HR.out.kept G5.out).b0; have b1 := (HR.out.kept G5.out).b1; clear hg))
          | (go_at_call 9; go_must (refine (points_any S _ _ _ (HR.out.kept G5.out).set).mono ?_; rintro e w6 ⟨pv, rfl, hpv, hg⟩; rw [HPe.out]; rw [HPo.out] at hpv; have HPv := Lib.hid hpv; clear hpv; have K5 := Lib.hid hg; have G6 := Lib.hid (grownBy_trans G5.out hg); have b0 := (HR.out.kept G6.out).b0; have b1 := (HR.out.kept G6.out).b1; clear hg))
          | (go_at_call 10; go_must (refine (least_any S _ _ _ (HR.out.kept G6.out).set).mono ?_; rintro e w7 ⟨lv, rfl, hlv, hg⟩; rw [HSo.out, HE.out]; rw [HHd.out] at hlv; have HLv := Lib.hid hlv; clear hlv; have K6 := Lib.hid hg; have G7 := Lib.hid (grownBy_trans G6.out hg); have b0 := (HR.out.kept G7.out).b0; have b1 := (HR.out.kept G7.out).b1; clear hg))
          | (go_at_call 11; go_must (refine (greatest_any S _ _ _ (HR.out.kept G7.out).set).mono ?_; rintro e w8 ⟨gv, rfl, hgv, hg⟩; rw [HSo.out, HE.out]; rw [HLa.out] at hgv; have HGv := Lib.hid hgv; clear hgv; have K7 := Lib.hid hg; have G8 := Lib.hid (grownBy_trans G7.out hg); have b0 := (HR.out.kept G8.out).b0; have b1 := (HR.out.kept G8.out).b1; clear hg))
          | (go_at_call 13; go_must (refine (when_any _ _ _).mono ?_; rintro e w' ⟨rfl, rfl⟩))
          | (go_at_call 12; go_must (refine (errs_at _ _ _).mono ?_; rintro e w9 ⟨rfl, hg⟩; rw [first2_zero]; have K8 := Lib.hid hg; have G9 := Lib.hid (grownBy_trans G8.out hg); have b0 := (HR.out.kept G9.out).b0; have b1 := (HR.out.kept G9.out).b1; clear hg))
          | (go_at_call 14; go_must (refine (hasIn_any S _ _ _ xs _ (HR.out.kept G9.out).set (HR.out.kept G9.out).ints HE.out HL.out).mono ?_; rintro e w10 ⟨rfl, hg⟩; have K9 := Lib.hid hg; have G10 := Lib.hid (grownBy_trans G9.out hg); have b0 := (HR.out.kept G10.out).b0; have b1 := (HR.out.kept G10.out).b1; clear hg))
          | (go_at_call 15; go_must (refine (pointsIn_any S _ _ _ (HR.out.kept G10.out).set HE.out).mono ?_; rintro e w11 ⟨wv, rfl, hwp, hg⟩; rw [HPS.out] at hwp; obtain ⟨pp, pcap, rfl, hple, hpc⟩ := id hwp; have HWp := Lib.hid hwp; clear hwp hpc; have K10 := Lib.hid hg; have G11 := Lib.hid (grownBy_trans G10.out hg); have b0 := (HR.out.kept G11.out).b0; have b1 := (HR.out.kept G11.out).b1; clear hg))
          | (go_at_call 13; go_must (refine (when_any _ _ _).mono ?_; rintro e w' ⟨rfl, rfl⟩))
          | (go_at_call 16; go_must (refine (checkSet_any S _ _ _ (HR.out.kept G11.out).set).mono ?_; rintro e w12 ⟨rfl, hg⟩; rw [HE.out]; have K11 := Lib.hid hg; have G12 := Lib.hid (grownBy_trans G11.out hg); have b0 := (HR.out.kept G12.out).b0; have b1 := (HR.out.kept G12.out).b1; clear hg))
          | (go_at_call 17; go_must (refine (sameLists_any _ _ [] [] _ (HPv.out.kept (grownBy_trans K6.out (grownBy_trans K7.out (grownBy_trans K8.out (grownBy_trans K9.out (grownBy_trans K10.out K11.out)))))) (HWp.out.kept K11.out)).mono ?_; rintro e w13 ⟨rfl, hg⟩; rw [sameRows_self]; have K12 := Lib.hid hg; have G13 := Lib.hid (grownBy_trans G12.out hg); have b0 := (HR.out.kept G13.out).b0; have b1 := (HR.out.kept G13.out).b1; clear hg))
          | (go_at_call 18; go_must (first | (have _t := tok1; refine (equal_any lv _ [] [] _ (HLv.out.kept (grownBy_trans K7.out (grownBy_trans K8.out (grownBy_trans K9.out (grownBy_trans K10.out (grownBy_trans K11.out K12.out)))))) (ints_nil _)).mono ?_; rintro e w14 ⟨rfl, hg⟩; rw [sameInts_self]; have K13 := Lib.hid hg; have G14 := Lib.hid (grownBy_trans G13.out hg); clear hg tok1) | (refine (equal_any gv _ [] [] _ (HGv.out.kept (grownBy_trans K8.out (grownBy_trans K9.out (grownBy_trans K10.out (grownBy_trans K11.out (grownBy_trans K12.out K13.out)))))) (ints_nil _)).mono ?_; rintro e w15 ⟨rfl, hg⟩; rw [sameInts_self]; have G15 := Lib.hid (grownBy_trans G14.out hg); clear hg)))
          | (go_at_call 19; go_must (refine (counted_any _).mono ?_; rintro e w16 ⟨rfl, hg⟩; have GZ := Lib.hid (grownBy_trans G15.out hg); clear hg)))
        all_goals
          go_ret
          exact ⟨rfl, grownBy_trans HG.out GZ.out⟩
      have hpos : 0 < PS.length := List.length_pos_iff.2 hz
      obtain ⟨P0, hP0⟩ : ∃ x, PS[0]? = some x := ⟨_, List.getElem?_eq_getElem hpos⟩
      obtain ⟨PL, hPL⟩ : ∃ x, PS[PS.length - 1]? = some x := ⟨_, List.getElem?_eq_getElem (by omega)⟩
      have HGet0 := Lib.hid hP0
      have HGetL := Lib.hid hPL
      have HHd := Lib.hid (show headOf S = P0 by rw [HHd0.out, List.head?_eq_getElem?, hP0]; rfl)
      have HLa := Lib.hid (show lastOf S = PL by rw [HLa0.out, List.getLast?_eq_getElem?, hPL]; rfl)
      have he : PS.isEmpty = false := by cases PS with | nil => exact absurd rfl hz | cons _ _ => rfl
      rw [he] at HSo
      clear hz hP0 hPL he
      have hI1 : (0 : Int) < (PS.length : Int) := by omega
      have hI2 : (0 : Int) ≤ (PS.length : Int) - 1 := by omega
      have hI3 : (PS.length : Int) - 1 < (PS.length : Int) := by omega
      have hbx := HB.out
      by_cases hf : PS.length ≤ 5000
      · have HPe := Lib.hid (show pointsErr S = 0 by rw [HPe0.out, if_neg (by omega)])
        have HPo := Lib.hid (show pointsOf S = PS by rw [HPo0.out, HPe.out]; rfl)
        go_wp2_with (first
          | (go_at_call 6; go_must (refine (setFault_any S _ _ _ (HR.out.kept G2.out).set).mono ?_; rintro e w3 ⟨rfl, hg⟩; rw [HE.out]; have K2 := Lib.hid hg; have G3 := Lib.hid (grownBy_trans G2.out hg); have b0 := (HR.out.kept G3.out).b0; have b1 := (HR.out.kept G3.out).b1; clear hg))
          | (go_at_call 7; go_must (refine (has_any S _ _ _ xs _ (HR.out.kept G3.out).set (HR.out.kept G3.out).ints).mono ?_; rintro e w4 ⟨rfl, hg⟩; rw [HHe.out, HHo.out]; have K3 := Lib.hid hg; have G4 := Lib.hid (grownBy_trans G3.out hg); have b0 := (HR.out.kept G4.out).b0; have b1 := (HR.out.kept G4.out).b1; clear hg))
          | (go_at_call 8; go_must (refine (count_any S _ _ _ (HR.out.kept G4.out).set).mono ?_; rintro e w5 ⟨rfl, hg⟩; rw [HCo.out, HE.out]; have K4 := Lib.hid hg; have G5 := Lib.hid (grownBy_trans G4.out hg); have b0 := (HR.out.kept G5.out).b0; have b1 := (HR.out.kept G5.out).b1; clear hg))
          | (go_at_call 9; go_must (refine (points_any S _ _ _ (HR.out.kept G5.out).set).mono ?_; rintro e w6 ⟨pv, rfl, hpv, hg⟩; rw [HPe.out]; rw [HPo.out] at hpv; have HPv := Lib.hid hpv; clear hpv; have K5 := Lib.hid hg; have G6 := Lib.hid (grownBy_trans G5.out hg); have b0 := (HR.out.kept G6.out).b0; have b1 := (HR.out.kept G6.out).b1; clear hg))
          | (go_at_call 10; go_must (refine (least_any S _ _ _ (HR.out.kept G6.out).set).mono ?_; rintro e w7 ⟨lv, rfl, hlv, hg⟩; rw [HSo.out, HE.out]; rw [HHd.out] at hlv; have HLv := Lib.hid hlv; clear hlv; have K6 := Lib.hid hg; have G7 := Lib.hid (grownBy_trans G6.out hg); have b0 := (HR.out.kept G7.out).b0; have b1 := (HR.out.kept G7.out).b1; clear hg))
          | (go_at_call 11; go_must (refine (greatest_any S _ _ _ (HR.out.kept G7.out).set).mono ?_; rintro e w8 ⟨gv, rfl, hgv, hg⟩; rw [HSo.out, HE.out]; rw [HLa.out] at hgv; have HGv := Lib.hid hgv; clear hgv; have K7 := Lib.hid hg; have G8 := Lib.hid (grownBy_trans G7.out hg); have b0 := (HR.out.kept G8.out).b0; have b1 := (HR.out.kept G8.out).b1; clear hg))
          | (go_at_call 13; go_must (refine (when_any _ _ _).mono ?_; rintro e w' ⟨rfl, rfl⟩))
          | (go_at_call 12; go_must (refine (errs_at _ _ _).mono ?_; rintro e w9 ⟨rfl, hg⟩; rw [first2_zero]; have K8 := Lib.hid hg; have G9 := Lib.hid (grownBy_trans G8.out hg); have b0 := (HR.out.kept G9.out).b0; have b1 := (HR.out.kept G9.out).b1; clear hg))
          | (go_at_call 14; go_must (refine (hasIn_any S _ _ _ xs _ (HR.out.kept G9.out).set (HR.out.kept G9.out).ints HE.out HL.out).mono ?_; rintro e w10 ⟨rfl, hg⟩; have K9 := Lib.hid hg; have G10 := Lib.hid (grownBy_trans G9.out hg); have b0 := (HR.out.kept G10.out).b0; have b1 := (HR.out.kept G10.out).b1; clear hg))
          | (go_at_call 15; go_must (refine (pointsIn_any S _ _ _ (HR.out.kept G10.out).set HE.out).mono ?_; rintro e w11 ⟨wv, rfl, hwp, hg⟩; rw [HPS.out] at hwp; obtain ⟨pp, pcap, rfl, hple, hpc⟩ := id hwp; obtain ⟨bq, oq, rv1, rfl, hc1, hi1⟩ := hpc 0 _ HGet0.out; obtain ⟨bq2, oq2, rv2, hbb, hc2, hi2⟩ := hpc _ _ HGetL.out; simp only [Option.some.injEq, Addr.mk.injEq] at hbb; obtain ⟨rfl, rfl, _⟩ := hbb; simp only [Nat.add_zero] at hc1; have HI1 := Lib.hid hi1; have HI2 := Lib.hid hi2; clear hi1 hi2; have HWp := Lib.hid hwp; clear hwp hpc; have K10 := Lib.hid hg; have G11 := Lib.hid (grownBy_trans G10.out hg); have b0 := (HR.out.kept G11.out).b0; have b1 := (HR.out.kept G11.out).b1; clear hg)))
        go_quiet (fail)
        have K11 := Lib.hid (grownBy_drewN w11 nq none)
        have G12 := Lib.hid (grownBy_trans G11.out K11.out)
        have b0 := (HR.out.kept G12.out).b0
        have b1 := (HR.out.kept G12.out).b1
        go_wp2_with (first
          | (go_at_call 13; go_must (refine (when_any _ _ _).mono ?_; rintro e w' ⟨rfl, rfl⟩))
          | (go_at_call 16; go_must (refine (checkSet_any S _ _ _ (HR.out.kept G12.out).set).mono ?_; rintro e w13 ⟨rfl, hg⟩; rw [HE.out]; have K12 := Lib.hid hg; have G13 := Lib.hid (grownBy_trans G12.out hg); have b0 := (HR.out.kept G13.out).b0; have b1 := (HR.out.kept G13.out).b1; clear hg))
          | (go_at_call 17; go_must (refine (sameLists_any _ _ PS PS _ (HPv.out.kept (grownBy_trans K6.out (grownBy_trans K7.out (grownBy_trans K8.out (grownBy_trans K9.out (grownBy_trans K10.out (grownBy_trans K11.out K12.out))))))) (HWp.out.kept (grownBy_trans K11.out K12.out))).mono ?_; rintro e w14 ⟨rfl, hg⟩; rw [sameRows_self]; have K13 := Lib.hid hg; have G14 := Lib.hid (grownBy_trans G13.out hg); have b0 := (HR.out.kept G14.out).b0; have b1 := (HR.out.kept G14.out).b1; clear hg))
          | (go_at_call 18; go_must (first | (have _t := tok1; refine (equal_any lv rv1 P0 P0 _ (HLv.out.kept (grownBy_trans K7.out (grownBy_trans K8.out (grownBy_trans K9.out (grownBy_trans K10.out (grownBy_trans K11.out (grownBy_trans K12.out K13.out))))))) (HI1.out.kept (grownBy_trans K11.out (grownBy_trans K12.out K13.out)))).mono ?_; rintro e w15 ⟨rfl, hg⟩; rw [sameInts_self]; have K14 := Lib.hid hg; have G15 := Lib.hid (grownBy_trans G14.out hg); clear hg tok1) | (refine (equal_any gv rv2 PL PL _ (HGv.out.kept (grownBy_trans K8.out (grownBy_trans K9.out (grownBy_trans K10.out (grownBy_trans K11.out (grownBy_trans K12.out (grownBy_trans K13.out K14.out))))))) (HI2.out.kept (grownBy_trans K11.out (grownBy_trans K12.out (grownBy_trans K13.out K14.out))))).mono ?_; rintro e w16 ⟨rfl, hg⟩; rw [sameInts_self]; have G16 := Lib.hid (grownBy_trans G15.out hg); clear hg)))
          | (go_at_call 19; go_must (refine (counted_any _).mono ?_; rintro e w17 ⟨rfl, hg⟩; have GZ := Lib.hid (grownBy_trans G16.out hg); clear hg)))
        all_goals
          go_ret
          exact ⟨rfl, grownBy_trans HG.out GZ.out⟩
      · have HPe := Lib.hid (show pointsErr S = 12 by rw [HPe0.out, if_pos (by omega)])
        have HPo := Lib.hid (show pointsOf S = [] by rw [HPo0.out, HPe.out]; rfl)
        go_wp2_with (first
          | (go_at_call 6; go_must (refine (setFault_any S _ _ _ (HR.out.kept G2.out).set).mono ?_; rintro e w3 ⟨rfl, hg⟩; rw [HE.out]; have K2 := Lib.hid hg; have G3 := Lib.hid (grownBy_trans G2.out hg); have b0 := (HR.out.kept G3.out).b0; have b1 := (HR.out.kept G3.out).b1; clear hg))
          | (go_at_call 7; go_must (refine (has_any S _ _ _ xs _ (HR.out.kept G3.out).set (HR.out.kept G3.out).ints).mono ?_; rintro e w4 ⟨rfl, hg⟩; rw [HHe.out, HHo.out]; have K3 := Lib.hid hg; have G4 := Lib.hid (grownBy_trans G3.out hg); have b0 := (HR.out.kept G4.out).b0; have b1 := (HR.out.kept G4.out).b1; clear hg))
          | (go_at_call 8; go_must (refine (count_any S _ _ _ (HR.out.kept G4.out).set).mono ?_; rintro e w5 ⟨rfl, hg⟩; rw [HCo.out, HE.out]; have K4 := Lib.hid hg; have G5 := Lib.hid (grownBy_trans G4.out hg); have b0 := (HR.out.kept G5.out).b0; have b1 := (HR.out.kept G5.out).b1; clear hg))
          | (go_at_call 9; go_must (refine (points_any S _ _ _ (HR.out.kept G5.out).set).mono ?_; rintro e w6 ⟨pv, rfl, hpv, hg⟩; rw [HPe.out]; rw [HPo.out] at hpv; have HPv := Lib.hid hpv; clear hpv; have K5 := Lib.hid hg; have G6 := Lib.hid (grownBy_trans G5.out hg); have b0 := (HR.out.kept G6.out).b0; have b1 := (HR.out.kept G6.out).b1; clear hg))
          | (go_at_call 10; go_must (refine (least_any S _ _ _ (HR.out.kept G6.out).set).mono ?_; rintro e w7 ⟨lv, rfl, hlv, hg⟩; rw [HSo.out, HE.out]; rw [HHd.out] at hlv; have HLv := Lib.hid hlv; clear hlv; have K6 := Lib.hid hg; have G7 := Lib.hid (grownBy_trans G6.out hg); have b0 := (HR.out.kept G7.out).b0; have b1 := (HR.out.kept G7.out).b1; clear hg))
          | (go_at_call 11; go_must (refine (greatest_any S _ _ _ (HR.out.kept G7.out).set).mono ?_; rintro e w8 ⟨gv, rfl, hgv, hg⟩; rw [HSo.out, HE.out]; rw [HLa.out] at hgv; have HGv := Lib.hid hgv; clear hgv; have K7 := Lib.hid hg; have G8 := Lib.hid (grownBy_trans G7.out hg); have b0 := (HR.out.kept G8.out).b0; have b1 := (HR.out.kept G8.out).b1; clear hg))
          | (go_at_call 13; go_must (refine (when_any _ _ _).mono ?_; rintro e w' ⟨rfl, rfl⟩))
          | (go_at_call 12; go_must (refine (errs_at _ _ _).mono ?_; rintro e w9 ⟨rfl, hg⟩; rw [first2_zero]; have K8 := Lib.hid hg; have G9 := Lib.hid (grownBy_trans G8.out hg); have b0 := (HR.out.kept G9.out).b0; have b1 := (HR.out.kept G9.out).b1; clear hg))
          | (go_at_call 14; go_must (refine (hasIn_any S _ _ _ xs _ (HR.out.kept G9.out).set (HR.out.kept G9.out).ints HE.out HL.out).mono ?_; rintro e w10 ⟨rfl, hg⟩; have K9 := Lib.hid hg; have G10 := Lib.hid (grownBy_trans G9.out hg); have b0 := (HR.out.kept G10.out).b0; have b1 := (HR.out.kept G10.out).b1; clear hg))
          | (go_at_call 15; go_must (refine (pointsIn_any S _ _ _ (HR.out.kept G10.out).set HE.out).mono ?_; rintro e w11 ⟨wv, rfl, hwp, hg⟩; rw [HPS.out] at hwp; obtain ⟨pp, pcap, rfl, hple, hpc⟩ := id hwp; obtain ⟨bq, oq, rv1, rfl, hc1, hi1⟩ := hpc 0 _ HGet0.out; obtain ⟨bq2, oq2, rv2, hbb, hc2, hi2⟩ := hpc _ _ HGetL.out; simp only [Option.some.injEq, Addr.mk.injEq] at hbb; obtain ⟨rfl, rfl, _⟩ := hbb; simp only [Nat.add_zero] at hc1; have HI1 := Lib.hid hi1; have HI2 := Lib.hid hi2; clear hi1 hi2; have HWp := Lib.hid hwp; clear hwp hpc; have K10 := Lib.hid hg; have G11 := Lib.hid (grownBy_trans G10.out hg); have b0 := (HR.out.kept G11.out).b0; have b1 := (HR.out.kept G11.out).b1; clear hg)))
        go_quiet (fail)
        have K11 := Lib.hid (grownBy_drewN w11 nq none)
        have G12 := Lib.hid (grownBy_trans G11.out K11.out)
        have b0 := (HR.out.kept G12.out).b0
        have b1 := (HR.out.kept G12.out).b1
        go_wp2_with (first
          | (go_at_call 13; go_must (refine (when_any _ _ _).mono ?_; rintro e w' ⟨rfl, rfl⟩))
          | (go_at_call 16; go_must (refine (checkSet_any S _ _ _ (HR.out.kept G12.out).set).mono ?_; rintro e w13 ⟨rfl, hg⟩; rw [HE.out]; have K12 := Lib.hid hg; have G13 := Lib.hid (grownBy_trans G12.out hg); have b0 := (HR.out.kept G13.out).b0; have b1 := (HR.out.kept G13.out).b1; clear hg))
          | (go_at_call 17; go_must (refine (sameLists_any _ _ [] [] _ (HPv.out.kept (grownBy_trans K6.out (grownBy_trans K7.out (grownBy_trans K8.out (grownBy_trans K9.out (grownBy_trans K10.out (grownBy_trans K11.out K12.out))))))) (rows_nil _)).mono ?_; rintro e w14 ⟨rfl, hg⟩; rw [sameRows_self]; have K13 := Lib.hid hg; have G14 := Lib.hid (grownBy_trans G13.out hg); have b0 := (HR.out.kept G14.out).b0; have b1 := (HR.out.kept G14.out).b1; clear hg))
          | (go_at_call 18; go_must (first | (have _t := tok1; refine (equal_any lv rv1 P0 P0 _ (HLv.out.kept (grownBy_trans K7.out (grownBy_trans K8.out (grownBy_trans K9.out (grownBy_trans K10.out (grownBy_trans K11.out (grownBy_trans K12.out K13.out))))))) (HI1.out.kept (grownBy_trans K11.out (grownBy_trans K12.out K13.out)))).mono ?_; rintro e w15 ⟨rfl, hg⟩; rw [sameInts_self]; have K14 := Lib.hid hg; have G15 := Lib.hid (grownBy_trans G14.out hg); clear hg tok1) | (refine (equal_any gv rv2 PL PL _ (HGv.out.kept (grownBy_trans K8.out (grownBy_trans K9.out (grownBy_trans K10.out (grownBy_trans K11.out (grownBy_trans K12.out (grownBy_trans K13.out K14.out))))))) (HI2.out.kept (grownBy_trans K11.out (grownBy_trans K12.out (grownBy_trans K13.out K14.out))))).mono ?_; rintro e w16 ⟨rfl, hg⟩; rw [sameInts_self]; have G16 := Lib.hid (grownBy_trans G15.out hg); clear hg)))
          | (go_at_call 19; go_must (refine (counted_any _).mono ?_; rintro e w17 ⟨rfl, hg⟩; have GZ := Lib.hid (grownBy_trans G16.out hg); clear hg)))
        all_goals
          go_ret
          exact ⟨rfl, grownBy_trans HG.out GZ.out⟩
    · have HHe := Lib.hid (show hasErr S xs = 3 by simp [hasErr, HE.out, hq])
      have HHo := Lib.hid (show hasOf S xs = false by simp [hasOf, HHe.out])
      have hqb : ((xs.length : Int) != (S.1.length : Int)) = true := by simp; omega
      clear hq
      by_cases hz : PS = []
      · subst hz
        have HHd := Lib.hid (show headOf S = [] by rw [HHd0.out]; rfl)
        have HLa := Lib.hid (show lastOf S = [] by rw [HLa0.out]; rfl)
        have HPe := Lib.hid (show pointsErr S = 0 by rw [HPe0.out]; rfl)
        have HPo := Lib.hid (show pointsOf S = [] by rw [HPo0.out, HPe.out]; rfl)
        go_wp2_with (first
          | (go_at_call 6; go_must (refine (setFault_any S _ _ _ (HR.out.kept G2.out).set).mono ?_; rintro e w3 ⟨rfl, hg⟩; rw [HE.out]; have K2 := Lib.hid hg; have G3 := Lib.hid (grownBy_trans G2.out hg); have b0 := (HR.out.kept G3.out).b0; have b1 := (HR.out.kept G3.out).b1; clear hg))
          | (go_at_call 7; go_must (refine (has_any S _ _ _ xs _ (HR.out.kept G3.out).set (HR.out.kept G3.out).ints).mono ?_; rintro e w4 ⟨rfl, hg⟩; rw [HHe.out, HHo.out]; have K3 := Lib.hid hg; have G4 := Lib.hid (grownBy_trans G3.out hg); have b0 := (HR.out.kept G4.out).b0; have b1 := (HR.out.kept G4.out).b1; clear hg))
          | (go_at_call 8; go_must (refine (count_any S _ _ _ (HR.out.kept G4.out).set).mono ?_; rintro e w5 ⟨rfl, hg⟩; rw [HCo.out, HE.out]; have K4 := Lib.hid hg; have G5 := Lib.hid (grownBy_trans G4.out hg); have b0 := (HR.out.kept G5.out).b0; have b1 := (HR.out.kept G5.out).b1; clear hg))
          | (go_at_call 9; go_must (refine (points_any S _ _ _ (HR.out.kept G5.out).set).mono ?_; rintro e w6 ⟨pv, rfl, hpv, hg⟩; rw [HPe.out]; rw [HPo.out] at hpv; have HPv := Lib.hid hpv; clear hpv; have K5 := Lib.hid hg; have G6 := Lib.hid (grownBy_trans G5.out hg); have b0 := (HR.out.kept G6.out).b0; have b1 := (HR.out.kept G6.out).b1; clear hg))
          | (go_at_call 10; go_must (refine (least_any S _ _ _ (HR.out.kept G6.out).set).mono ?_; rintro e w7 ⟨lv, rfl, hlv, hg⟩; rw [HSo.out, HE.out]; rw [HHd.out] at hlv; have HLv := Lib.hid hlv; clear hlv; have K6 := Lib.hid hg; have G7 := Lib.hid (grownBy_trans G6.out hg); have b0 := (HR.out.kept G7.out).b0; have b1 := (HR.out.kept G7.out).b1; clear hg))
          | (go_at_call 11; go_must (refine (greatest_any S _ _ _ (HR.out.kept G7.out).set).mono ?_; rintro e w8 ⟨gv, rfl, hgv, hg⟩; rw [HSo.out, HE.out]; rw [HLa.out] at hgv; have HGv := Lib.hid hgv; clear hgv; have K7 := Lib.hid hg; have G8 := Lib.hid (grownBy_trans G7.out hg); have b0 := (HR.out.kept G8.out).b0; have b1 := (HR.out.kept G8.out).b1; clear hg))
          | (go_at_call 13; go_must (refine (when_any _ _ _).mono ?_; rintro e w' ⟨rfl, rfl⟩))
          | (go_at_call 12; go_must (refine (errs_at _ _ _).mono ?_; rintro e w9 ⟨rfl, hg⟩; rw [first2_zero]; have K8 := Lib.hid hg; have G9 := Lib.hid (grownBy_trans G8.out hg); have b0 := (HR.out.kept G9.out).b0; have b1 := (HR.out.kept G9.out).b1; clear hg))
          | (go_at_call 15; go_must (refine (pointsIn_any S _ _ _ (HR.out.kept G9.out).set HE.out).mono ?_; rintro e w10 ⟨wv, rfl, hwp, hg⟩; rw [HPS.out] at hwp; obtain ⟨pp, pcap, rfl, hple, hpc⟩ := id hwp; have HWp := Lib.hid hwp; clear hwp hpc; have K9 := Lib.hid hg; have G10 := Lib.hid (grownBy_trans G9.out hg); have b0 := (HR.out.kept G10.out).b0; have b1 := (HR.out.kept G10.out).b1; clear hg))
          | (go_at_call 13; go_must (refine (when_any _ _ _).mono ?_; rintro e w' ⟨rfl, rfl⟩))
          | (go_at_call 16; go_must (refine (checkSet_any S _ _ _ (HR.out.kept G10.out).set).mono ?_; rintro e w11 ⟨rfl, hg⟩; rw [HE.out]; have K10 := Lib.hid hg; have G11 := Lib.hid (grownBy_trans G10.out hg); have b0 := (HR.out.kept G11.out).b0; have b1 := (HR.out.kept G11.out).b1; clear hg))
          | (go_at_call 17; go_must (refine (sameLists_any _ _ [] [] _ (HPv.out.kept (grownBy_trans K6.out (grownBy_trans K7.out (grownBy_trans K8.out (grownBy_trans K9.out K10.out))))) (HWp.out.kept K10.out)).mono ?_; rintro e w12 ⟨rfl, hg⟩; rw [sameRows_self]; have K11 := Lib.hid hg; have G12 := Lib.hid (grownBy_trans G11.out hg); have b0 := (HR.out.kept G12.out).b0; have b1 := (HR.out.kept G12.out).b1; clear hg))
          | (go_at_call 18; go_must (first | (have _t := tok1; refine (equal_any lv _ [] [] _ (HLv.out.kept (grownBy_trans K7.out (grownBy_trans K8.out (grownBy_trans K9.out (grownBy_trans K10.out K11.out))))) (ints_nil _)).mono ?_; rintro e w13 ⟨rfl, hg⟩; rw [sameInts_self]; have K12 := Lib.hid hg; have G13 := Lib.hid (grownBy_trans G12.out hg); clear hg tok1) | (refine (equal_any gv _ [] [] _ (HGv.out.kept (grownBy_trans K8.out (grownBy_trans K9.out (grownBy_trans K10.out (grownBy_trans K11.out K12.out))))) (ints_nil _)).mono ?_; rintro e w14 ⟨rfl, hg⟩; rw [sameInts_self]; have G14 := Lib.hid (grownBy_trans G13.out hg); clear hg)))
          | (go_at_call 19; go_must (refine (counted_any _).mono ?_; rintro e w15 ⟨rfl, hg⟩; have GZ := Lib.hid (grownBy_trans G14.out hg); clear hg)))
        all_goals
          go_ret
          exact ⟨rfl, grownBy_trans HG.out GZ.out⟩
      have hpos : 0 < PS.length := List.length_pos_iff.2 hz
      obtain ⟨P0, hP0⟩ : ∃ x, PS[0]? = some x := ⟨_, List.getElem?_eq_getElem hpos⟩
      obtain ⟨PL, hPL⟩ : ∃ x, PS[PS.length - 1]? = some x := ⟨_, List.getElem?_eq_getElem (by omega)⟩
      have HGet0 := Lib.hid hP0
      have HGetL := Lib.hid hPL
      have HHd := Lib.hid (show headOf S = P0 by rw [HHd0.out, List.head?_eq_getElem?, hP0]; rfl)
      have HLa := Lib.hid (show lastOf S = PL by rw [HLa0.out, List.getLast?_eq_getElem?, hPL]; rfl)
      have he : PS.isEmpty = false := by cases PS with | nil => exact absurd rfl hz | cons _ _ => rfl
      rw [he] at HSo
      clear hz hP0 hPL he
      have hI1 : (0 : Int) < (PS.length : Int) := by omega
      have hI2 : (0 : Int) ≤ (PS.length : Int) - 1 := by omega
      have hI3 : (PS.length : Int) - 1 < (PS.length : Int) := by omega
      have hbx := HB.out
      by_cases hf : PS.length ≤ 5000
      · have HPe := Lib.hid (show pointsErr S = 0 by rw [HPe0.out, if_neg (by omega)])
        have HPo := Lib.hid (show pointsOf S = PS by rw [HPo0.out, HPe.out]; rfl)
        go_wp2_with (first
          | (go_at_call 6; go_must (refine (setFault_any S _ _ _ (HR.out.kept G2.out).set).mono ?_; rintro e w3 ⟨rfl, hg⟩; rw [HE.out]; have K2 := Lib.hid hg; have G3 := Lib.hid (grownBy_trans G2.out hg); have b0 := (HR.out.kept G3.out).b0; have b1 := (HR.out.kept G3.out).b1; clear hg))
          | (go_at_call 7; go_must (refine (has_any S _ _ _ xs _ (HR.out.kept G3.out).set (HR.out.kept G3.out).ints).mono ?_; rintro e w4 ⟨rfl, hg⟩; rw [HHe.out, HHo.out]; have K3 := Lib.hid hg; have G4 := Lib.hid (grownBy_trans G3.out hg); have b0 := (HR.out.kept G4.out).b0; have b1 := (HR.out.kept G4.out).b1; clear hg))
          | (go_at_call 8; go_must (refine (count_any S _ _ _ (HR.out.kept G4.out).set).mono ?_; rintro e w5 ⟨rfl, hg⟩; rw [HCo.out, HE.out]; have K4 := Lib.hid hg; have G5 := Lib.hid (grownBy_trans G4.out hg); have b0 := (HR.out.kept G5.out).b0; have b1 := (HR.out.kept G5.out).b1; clear hg))
          | (go_at_call 9; go_must (refine (points_any S _ _ _ (HR.out.kept G5.out).set).mono ?_; rintro e w6 ⟨pv, rfl, hpv, hg⟩; rw [HPe.out]; rw [HPo.out] at hpv; have HPv := Lib.hid hpv; clear hpv; have K5 := Lib.hid hg; have G6 := Lib.hid (grownBy_trans G5.out hg); have b0 := (HR.out.kept G6.out).b0; have b1 := (HR.out.kept G6.out).b1; clear hg))
          | (go_at_call 10; go_must (refine (least_any S _ _ _ (HR.out.kept G6.out).set).mono ?_; rintro e w7 ⟨lv, rfl, hlv, hg⟩; rw [HSo.out, HE.out]; rw [HHd.out] at hlv; have HLv := Lib.hid hlv; clear hlv; have K6 := Lib.hid hg; have G7 := Lib.hid (grownBy_trans G6.out hg); have b0 := (HR.out.kept G7.out).b0; have b1 := (HR.out.kept G7.out).b1; clear hg))
          | (go_at_call 11; go_must (refine (greatest_any S _ _ _ (HR.out.kept G7.out).set).mono ?_; rintro e w8 ⟨gv, rfl, hgv, hg⟩; rw [HSo.out, HE.out]; rw [HLa.out] at hgv; have HGv := Lib.hid hgv; clear hgv; have K7 := Lib.hid hg; have G8 := Lib.hid (grownBy_trans G7.out hg); have b0 := (HR.out.kept G8.out).b0; have b1 := (HR.out.kept G8.out).b1; clear hg))
          | (go_at_call 13; go_must (refine (when_any _ _ _).mono ?_; rintro e w' ⟨rfl, rfl⟩))
          | (go_at_call 12; go_must (refine (errs_at _ _ _).mono ?_; rintro e w9 ⟨rfl, hg⟩; rw [first2_zero]; have K8 := Lib.hid hg; have G9 := Lib.hid (grownBy_trans G8.out hg); have b0 := (HR.out.kept G9.out).b0; have b1 := (HR.out.kept G9.out).b1; clear hg))
          | (go_at_call 15; go_must (refine (pointsIn_any S _ _ _ (HR.out.kept G9.out).set HE.out).mono ?_; rintro e w10 ⟨wv, rfl, hwp, hg⟩; rw [HPS.out] at hwp; obtain ⟨pp, pcap, rfl, hple, hpc⟩ := id hwp; obtain ⟨bq, oq, rv1, rfl, hc1, hi1⟩ := hpc 0 _ HGet0.out; obtain ⟨bq2, oq2, rv2, hbb, hc2, hi2⟩ := hpc _ _ HGetL.out; simp only [Option.some.injEq, Addr.mk.injEq] at hbb; obtain ⟨rfl, rfl, _⟩ := hbb; simp only [Nat.add_zero] at hc1; have HI1 := Lib.hid hi1; have HI2 := Lib.hid hi2; clear hi1 hi2; have HWp := Lib.hid hwp; clear hwp hpc; have K9 := Lib.hid hg; have G10 := Lib.hid (grownBy_trans G9.out hg); have b0 := (HR.out.kept G10.out).b0; have b1 := (HR.out.kept G10.out).b1; clear hg)))
        go_quiet (fail)
        have K10 := Lib.hid (grownBy_drewN w10 nq none)
        have G11 := Lib.hid (grownBy_trans G10.out K10.out)
        have b0 := (HR.out.kept G11.out).b0
        have b1 := (HR.out.kept G11.out).b1
        go_wp2_with (first
          | (go_at_call 13; go_must (refine (when_any _ _ _).mono ?_; rintro e w' ⟨rfl, rfl⟩))
          | (go_at_call 16; go_must (refine (checkSet_any S _ _ _ (HR.out.kept G11.out).set).mono ?_; rintro e w12 ⟨rfl, hg⟩; rw [HE.out]; have K11 := Lib.hid hg; have G12 := Lib.hid (grownBy_trans G11.out hg); have b0 := (HR.out.kept G12.out).b0; have b1 := (HR.out.kept G12.out).b1; clear hg))
          | (go_at_call 17; go_must (refine (sameLists_any _ _ PS PS _ (HPv.out.kept (grownBy_trans K6.out (grownBy_trans K7.out (grownBy_trans K8.out (grownBy_trans K9.out (grownBy_trans K10.out K11.out)))))) (HWp.out.kept (grownBy_trans K10.out K11.out))).mono ?_; rintro e w13 ⟨rfl, hg⟩; rw [sameRows_self]; have K12 := Lib.hid hg; have G13 := Lib.hid (grownBy_trans G12.out hg); have b0 := (HR.out.kept G13.out).b0; have b1 := (HR.out.kept G13.out).b1; clear hg))
          | (go_at_call 18; go_must (first | (have _t := tok1; refine (equal_any lv rv1 P0 P0 _ (HLv.out.kept (grownBy_trans K7.out (grownBy_trans K8.out (grownBy_trans K9.out (grownBy_trans K10.out (grownBy_trans K11.out K12.out)))))) (HI1.out.kept (grownBy_trans K10.out (grownBy_trans K11.out K12.out)))).mono ?_; rintro e w14 ⟨rfl, hg⟩; rw [sameInts_self]; have K13 := Lib.hid hg; have G14 := Lib.hid (grownBy_trans G13.out hg); clear hg tok1) | (refine (equal_any gv rv2 PL PL _ (HGv.out.kept (grownBy_trans K8.out (grownBy_trans K9.out (grownBy_trans K10.out (grownBy_trans K11.out (grownBy_trans K12.out K13.out)))))) (HI2.out.kept (grownBy_trans K10.out (grownBy_trans K11.out (grownBy_trans K12.out K13.out))))).mono ?_; rintro e w15 ⟨rfl, hg⟩; rw [sameInts_self]; have G15 := Lib.hid (grownBy_trans G14.out hg); clear hg)))
          | (go_at_call 19; go_must (refine (counted_any _).mono ?_; rintro e w16 ⟨rfl, hg⟩; have GZ := Lib.hid (grownBy_trans G15.out hg); clear hg)))
        all_goals
          go_ret
          exact ⟨rfl, grownBy_trans HG.out GZ.out⟩
      · have HPe := Lib.hid (show pointsErr S = 12 by rw [HPe0.out, if_pos (by omega)])
        have HPo := Lib.hid (show pointsOf S = [] by rw [HPo0.out, HPe.out]; rfl)
        go_wp2_with (first
          | (go_at_call 6; go_must (refine (setFault_any S _ _ _ (HR.out.kept G2.out).set).mono ?_; rintro e w3 ⟨rfl, hg⟩; rw [HE.out]; have K2 := Lib.hid hg; have G3 := Lib.hid (grownBy_trans G2.out hg); have b0 := (HR.out.kept G3.out).b0; have b1 := (HR.out.kept G3.out).b1; clear hg))
          | (go_at_call 7; go_must (refine (has_any S _ _ _ xs _ (HR.out.kept G3.out).set (HR.out.kept G3.out).ints).mono ?_; rintro e w4 ⟨rfl, hg⟩; rw [HHe.out, HHo.out]; have K3 := Lib.hid hg; have G4 := Lib.hid (grownBy_trans G3.out hg); have b0 := (HR.out.kept G4.out).b0; have b1 := (HR.out.kept G4.out).b1; clear hg))
          | (go_at_call 8; go_must (refine (count_any S _ _ _ (HR.out.kept G4.out).set).mono ?_; rintro e w5 ⟨rfl, hg⟩; rw [HCo.out, HE.out]; have K4 := Lib.hid hg; have G5 := Lib.hid (grownBy_trans G4.out hg); have b0 := (HR.out.kept G5.out).b0; have b1 := (HR.out.kept G5.out).b1; clear hg))
          | (go_at_call 9; go_must (refine (points_any S _ _ _ (HR.out.kept G5.out).set).mono ?_; rintro e w6 ⟨pv, rfl, hpv, hg⟩; rw [HPe.out]; rw [HPo.out] at hpv; have HPv := Lib.hid hpv; clear hpv; have K5 := Lib.hid hg; have G6 := Lib.hid (grownBy_trans G5.out hg); have b0 := (HR.out.kept G6.out).b0; have b1 := (HR.out.kept G6.out).b1; clear hg))
          | (go_at_call 10; go_must (refine (least_any S _ _ _ (HR.out.kept G6.out).set).mono ?_; rintro e w7 ⟨lv, rfl, hlv, hg⟩; rw [HSo.out, HE.out]; rw [HHd.out] at hlv; have HLv := Lib.hid hlv; clear hlv; have K6 := Lib.hid hg; have G7 := Lib.hid (grownBy_trans G6.out hg); have b0 := (HR.out.kept G7.out).b0; have b1 := (HR.out.kept G7.out).b1; clear hg))
          | (go_at_call 11; go_must (refine (greatest_any S _ _ _ (HR.out.kept G7.out).set).mono ?_; rintro e w8 ⟨gv, rfl, hgv, hg⟩; rw [HSo.out, HE.out]; rw [HLa.out] at hgv; have HGv := Lib.hid hgv; clear hgv; have K7 := Lib.hid hg; have G8 := Lib.hid (grownBy_trans G7.out hg); have b0 := (HR.out.kept G8.out).b0; have b1 := (HR.out.kept G8.out).b1; clear hg))
          | (go_at_call 13; go_must (refine (when_any _ _ _).mono ?_; rintro e w' ⟨rfl, rfl⟩))
          | (go_at_call 12; go_must (refine (errs_at _ _ _).mono ?_; rintro e w9 ⟨rfl, hg⟩; rw [first2_zero]; have K8 := Lib.hid hg; have G9 := Lib.hid (grownBy_trans G8.out hg); have b0 := (HR.out.kept G9.out).b0; have b1 := (HR.out.kept G9.out).b1; clear hg))
          | (go_at_call 15; go_must (refine (pointsIn_any S _ _ _ (HR.out.kept G9.out).set HE.out).mono ?_; rintro e w10 ⟨wv, rfl, hwp, hg⟩; rw [HPS.out] at hwp; obtain ⟨pp, pcap, rfl, hple, hpc⟩ := id hwp; obtain ⟨bq, oq, rv1, rfl, hc1, hi1⟩ := hpc 0 _ HGet0.out; obtain ⟨bq2, oq2, rv2, hbb, hc2, hi2⟩ := hpc _ _ HGetL.out; simp only [Option.some.injEq, Addr.mk.injEq] at hbb; obtain ⟨rfl, rfl, _⟩ := hbb; simp only [Nat.add_zero] at hc1; have HI1 := Lib.hid hi1; have HI2 := Lib.hid hi2; clear hi1 hi2; have HWp := Lib.hid hwp; clear hwp hpc; have K9 := Lib.hid hg; have G10 := Lib.hid (grownBy_trans G9.out hg); have b0 := (HR.out.kept G10.out).b0; have b1 := (HR.out.kept G10.out).b1; clear hg)))
        go_quiet (fail)
        have K10 := Lib.hid (grownBy_drewN w10 nq none)
        have G11 := Lib.hid (grownBy_trans G10.out K10.out)
        have b0 := (HR.out.kept G11.out).b0
        have b1 := (HR.out.kept G11.out).b1
        go_wp2_with (first
          | (go_at_call 13; go_must (refine (when_any _ _ _).mono ?_; rintro e w' ⟨rfl, rfl⟩))
          | (go_at_call 16; go_must (refine (checkSet_any S _ _ _ (HR.out.kept G11.out).set).mono ?_; rintro e w12 ⟨rfl, hg⟩; rw [HE.out]; have K11 := Lib.hid hg; have G12 := Lib.hid (grownBy_trans G11.out hg); have b0 := (HR.out.kept G12.out).b0; have b1 := (HR.out.kept G12.out).b1; clear hg))
          | (go_at_call 17; go_must (refine (sameLists_any _ _ [] [] _ (HPv.out.kept (grownBy_trans K6.out (grownBy_trans K7.out (grownBy_trans K8.out (grownBy_trans K9.out (grownBy_trans K10.out K11.out)))))) (rows_nil _)).mono ?_; rintro e w13 ⟨rfl, hg⟩; rw [sameRows_self]; have K12 := Lib.hid hg; have G13 := Lib.hid (grownBy_trans G12.out hg); have b0 := (HR.out.kept G13.out).b0; have b1 := (HR.out.kept G13.out).b1; clear hg))
          | (go_at_call 18; go_must (first | (have _t := tok1; refine (equal_any lv rv1 P0 P0 _ (HLv.out.kept (grownBy_trans K7.out (grownBy_trans K8.out (grownBy_trans K9.out (grownBy_trans K10.out (grownBy_trans K11.out K12.out)))))) (HI1.out.kept (grownBy_trans K10.out (grownBy_trans K11.out K12.out)))).mono ?_; rintro e w14 ⟨rfl, hg⟩; rw [sameInts_self]; have K13 := Lib.hid hg; have G14 := Lib.hid (grownBy_trans G13.out hg); clear hg tok1) | (refine (equal_any gv rv2 PL PL _ (HGv.out.kept (grownBy_trans K8.out (grownBy_trans K9.out (grownBy_trans K10.out (grownBy_trans K11.out (grownBy_trans K12.out K13.out)))))) (HI2.out.kept (grownBy_trans K10.out (grownBy_trans K11.out (grownBy_trans K12.out K13.out))))).mono ?_; rintro e w15 ⟨rfl, hg⟩; rw [sameInts_self]; have G15 := Lib.hid (grownBy_trans G14.out hg); clear hg)))
          | (go_at_call 19; go_must (refine (counted_any _).mono ?_; rintro e w16 ⟨rfl, hg⟩; have GZ := Lib.hid (grownBy_trans G15.out hg); clear hg)))
        all_goals
          go_ret
          exact ⟨rfl, grownBy_trans HG.out GZ.out⟩

end Go.Proofs.Ytjgddagladmgoaa
