/-
 Tables added up. The terms of a drawn form: those that are not 0, in order. slices.Clone and slices.DeleteFunc at terms. Lists of numbers in their order; what is left of equal ones. What slices.SortFunc leaves of a row of lists.
-/
import Derived.Shelf.SlMaps.Clone
import Derived.Deep.DeepMust
import Derived.Shelf.SlSortCmp.Whole1
import Derived.Test.YtblpknkgjkbacaaGreatDoorQ01
import Derived.Test.YtblpknkgjkbacaaGreatDoorQ06
import Derived.Test.YtblpknkgjkbacaaGreatDoorQ08
namespace Go.Proofs.YtblpknkgjkbacaaGreatDoor
set_option linter.unusedVariables false
open Go.RowKit Go.Maps Go.WideMaps Go.Shelf
attribute [local go_sem ↓] Go.wp_at_zero Go.wp_at_succ
/-- A new table with such values. -/
def TabNew (Z : ByteArray → Int) (k : Nat) (w : World) (e : Ending) (w' : World) : Prop := ∃ (D : Table) (B : Nat), e = .returned (.map (some B)) ∧ w.heap.size ≤ B ∧ MapAt w' B k D ∧ TabIs D Z ∧ w.grownBy w' none
theorem clonePoly_any (k b : Nat) (D : Table) (w : World) (h : MapAt w b k D) :
    Calls Tryz.prog 57 #[.map (some b)] w (fun e w' => e = .returned (.map (some w.heap.size)) ∧ MapAt w' w.heap.size k D ∧ w.grownBy w' none) :=
  (AnyW.maps_Clone_owns Tryz.clonePoly _ _ b k D w h).mono fun _ _ ⟨he, h1, _, hb⟩ => ⟨he, h1, hb.os, hb.tape, hb.output, hb.size, fun i hi _ => hb.block i hi⟩
set_option maxRecDepth 100000 in
set_option maxHeartbeats 2000000 in
theorem plus_any (a : Int) (X Y : ByteArray → Int) (Dp Dq : Table) (Bp np Bq nq : Nat) (w : World) (hP : MapAt w Bp np Dp) (hQ : MapAt w Bq nq Dq) (hX : TabIs Dp X) (hY : TabIs Dq Y) (hn : np + nq ≤ 900)
    (hb : ∀ n, (-1000000000000000 ≤ X n ∧ X n ≤ 1000000000000000) ∧ (-1000000000000000 ≤ a * Y n ∧ a * Y n ≤ 1000000000000000)) :
    Calls Tryz.prog 41 #[.map (some Bp), .int .i64 a, .map (some Bq)] w (TabNew (fun m => X m + a * Y m) (np + nq) w) := by
  have hlq := World.ownsMap.lt hQ
  have hsq := World.ownsMap.size_le hQ
  have HP := Lib.hid hP
  have HQ := Lib.hid hQ
  have HX := Lib.hid hX
  have HY := Lib.hid hY
  have HB := Lib.hid hb
  clear hP hQ hX hY hb
  go_enter Tryz.func41, Tryz.ntmps41
  go_wp2_with (first
    | (go_at_call 57; go_must (refine (clonePoly_any np Bp Dp _ HP.out).mono ?_; rintro e w1 ⟨rfl, hm1, hg1⟩; have hs1 := World.ownsMap.lt hm1; have HM1 := Lib.hid hm1; have HQ1 : Hid (MapAt w1 Bq nq Dq) := World.ownsMap.kept HQ.out hg1 (by simp); have HG1 := Lib.hid hg1; clear hm1 hg1))
    | (at_range; refine wpList_range_own _ rfl _ 78 rfl 9 3 Tryz.lawStr Tryz.underlying78 _ Bq nq Dq rfl HQ1.out ?_; intro w0 hrg0 hg0 hs0; have R0 := Lib.hid hrg0; have G0 := Lib.hid hg0; clear hrg0 hg0 hs0))
  go_frame
  go_loopw [8] (fun _ wr => ∃ (left : Lit → Bool) (cnt no : Nat) (Do : Table), no + cnt ≤ np + nq ∧ Hid (wr.ranges Tryz.prog 9 (plainElem Tryz.prog 3) Bq w1.heap.size nq Dq left cnt) ∧ Hid (MapAt wr w.heap.size no Do) ∧ Hid (TabIs Do (fun m => X m + a * doneY left Y m)) ∧ Hid (w.grownBy wr none)) (fun _ wr => wr.rangeLeft Bq w1.heap.size)
  case atStart => exact ⟨_, _, np, Dp, by omega, R0.out, World.ownsMap.kept HM1.out G0.out (by simp), HX.out.cong fun n => by rw [doneY_start HY.out]; simp, grownBy_trans HG1.out G0.out⟩
  case round =>
    obtain ⟨left, cnt, no, Do, hno, HR, HM, HT, HG⟩ := hrel
    go_wp2_with (first
      | (at_next; refine wpList_next_si _ rfl _ rfl Bq w1.heap.size nq Dq left cnt rfl HR.out ?_ ?_))
    · intro _ hl0
      have HZ := Lib.hid hl0
      clear hl0
      go_wp2
      go_ret
      exact ⟨Do, w.heap.size, rfl, Nat.le_refl _, World.ownsMap.mono HM.out (by omega), HT.out.cong fun n => by unfold doneY; rw [HZ.out]; simp, HG.out⟩
    · intro x z w2 cnt1 hsz hlx hat hrg1 hlt1 hg1 hen
      obtain rfl : z = Y x := lit64_inj ((hat (lit64 0)).symm.trans (HY.out.at_ x))
      have HG1' : Hid (w.grownBy w2 none) := grown_own HG.out hg1 (fun i hi => by cases hi; omega)
      have hm2 : MapAt w2 w.heap.size no Do := World.ownsMap.kept HM.out hg1 (by simp; omega)
      have HR1 := Lib.hid hrg1
      have Hlt := Lib.hid hlt1
      have hkeyx := key_str hsz
      have hz0 : X x + a * doneY left Y x = X x := by unfold doneY; rw [if_pos hlx]; simp
      have hlook := tab_look hm2 HT.out hsz
      simp only [hz0] at hlook
      obtain ⟨⟨b1, b2⟩, b3, b4⟩ := HB.out x
      have hw1 : IntKind.i64.wrap (a * Y x) = a * Y x := wrap_near (by omega)
      have hw2 : IntKind.i64.wrap (X x + a * Y x) = X x + a * Y x := wrap_near (by omega)
      have HM2 := Lib.hid hm2
      have HTp := Lib.hid (HT.out.put x (X x + a * Y x))
      clear hat hrg1 hlt1 hg1 hlx hz0 hm2
      go_wp2_with (first
        | (at_mapUpdate; refine wpList_mapUpdate_own _ rfl _ _ _ 78 rfl 9 3 Tryz.lawStr Tryz.underlying78 _ w.heap.size no Do rfl HM2.out (lt_maxLen _ (by omega)) _ _ _ rfl rfl hkeyx _ [] (plainElem_int Tryz.underlying3 (wf64 (by omega) (by omega))) ?_; intro w3 hown3 hg3; have HO3 := Lib.hid hown3; have HG3 := Lib.hid hg3; clear hown3 hg3))
      go_roundw
      case rel =>
        refine ⟨_, _, _, _, _, _, _, _, _, _, _, _, _, _, ?_, rfl⟩
        exact ⟨_, cnt1, no + 1, _, by have := Hlt.out; omega, World.ranges.kept HR1.out HG3.out (by simp; omega) (by simp; omega), HO3.out, HTp.out.cong fun m => by
          show _ = X m + a * doneY _ Y m
          rw [doneY_step m]
          by_cases e : m = x
          · rw [if_pos e, if_pos e, e]
          · rw [if_neg e, if_neg e], grown_own HG1'.out HG3.out (fun i hi => by cases hi; exact Nat.le_refl _)⟩
      case measure => rw [World.ranges.left_eq (World.ranges.kept HR1.out HG3.out (by simp; omega) (by simp; omega)), World.ranges.left_eq HR.out]; exact Hlt.out
end Go.Proofs.YtblpknkgjkbacaaGreatDoor
namespace Go.Proofs.YtblpknkgjkbacaaGreatDoor
open Go.RowKit
attribute [local go_sem ↓] Go.wp_at_zero Go.wp_at_succ
abbrev TermD := ByteArray × Int
/-- A row of terms of the call's own. -/
def TermRow (w : World) (P : Nat) (v : Value) (ts : List TermD) : Prop := w.ownsRow P 54 2 v ts.length (ts.flatMap termCells)
theorem TermRow.cells {w : World} {P : Nat} {p : Option Addr} {n cap : Nat} {ts : List TermD} (h : TermRow w P (.slice p n cap) ts) {j : Nat} {t : TermD} (hj : ts[j]? = some t) :
    ∃ g, p = some ⟨g, 0, none⟩ ∧ w.cell? ⟨g, j * 2, none⟩ = some (.string t.1) ∧ w.cell? ⟨g, j * 2 + 1, none⟩ = some (.int .i64 t.2) := by
  have e0 := flat_get (f := termCells) (k := 2) (fun _ => rfl) hj (i := 0) (v := .string t.1) rfl
  have e1 := flat_get (f := termCells) (k := 2) (fun _ => rfl) hj (i := 1) (v := .int .i64 t.2) rfl
  obtain ⟨g, c, hv, _, k0⟩ := own_cell h e0
  obtain ⟨g', c', hv', _, k1⟩ := own_cell h e1
  obtain ⟨rfl, _, _⟩ := Value.slice.inj hv
  obtain ⟨hg, _, _⟩ := Value.slice.inj hv'
  simp only [Option.some.injEq, Addr.mk.injEq, and_true] at hg
  subst hg
  exact ⟨g, rfl, k0, k1⟩
theorem TermRow.kept {w w' : World} {P : Nat} {v : Value} {ts : List TermD} (h : TermRow w P v ts) (hg : w.grownBy w' none) : TermRow w' P v ts := owns_kept h hg
set_option maxHeartbeats 400000 in
theorem form1_any (n : ByteArray) (z : Int) (w : World) :
    Calls Tryz.prog 48 #[.agg #[.string n, .int .i64 z]] w (Gives (.bool (z == 0)) w) := by
  go_enter Tryz.func48, Tryz.ntmps48
  go_wp2
  all_goals
    go_ret
    exact ⟨ret_bool (by simp [*]), World.grownBy_alloc _ _ _⟩
def SomeIndex (n : Nat) (w : World) (e : Ending) (w' : World) : Prop := ∃ k : Int, (k = -1 ∨ (0 ≤ k ∧ k < n ∧ (k == -1) = false)) ∧ e = .returned (.int .i64 k) ∧ w.grownBy w' none
set_option maxRecDepth 100000 in
set_option maxHeartbeats 1000000 in
theorem indexTerm_any (P : Nat) (v : Value) (ts : List TermD) (w : World) (hl : ts.length ≤ 1000000) (h : TermRow w P v ts) :
    Calls Tryz.prog 63 #[v, .func (.func 48) #[] #[]] w (SomeIndex ts.length w) := by
  obtain ⟨p, cap, rfl⟩ := own_form h
  have H := Lib.hid h
  clear h
  go_enter Tryz.func63, Tryz.ntmps63
  go_wp2
  go_loopw [8] (fun i wr => ∃ k : Nat, k ≤ ts.length ∧ i = .int .i64 k ∧ Hid (w.grownBy wr none)) (fun i _ => ts.length - (intOf i).toNat)
  case atStart => exact ⟨0, Nat.zero_le _, rfl, grownBy_refl _ _⟩
  case round =>
    obtain ⟨k, hk, rfl, HG⟩ := hrel
    by_cases hlt : k < ts.length
    · have h0 := List.getElem?_eq_getElem hlt
      obtain ⟨g, rfl, h1, h2⟩ := (H.out.kept HG.out).cells h0
      generalize hn : (ts[k]).1 = n at *
      generalize hz : (ts[k]).2 = z at *
      clear h0 hn hz
      go_wp2_with (first | (go_at_call 48; refine (form1_any n z wr).mono ?_; rintro e w' ⟨rfl, hg1⟩; have G1 := Lib.hid hg1; clear hg1))
      · go_ret
        exact ⟨k, .inr ⟨by omega, by omega, by rw [Bool.eq_false_iff]; intro e; simp at e⟩, rfl, grownBy_trans HG.out G1.out⟩
      · go_roundw
        case rel => exact ⟨k + 1, by omega, by go_num, grownBy_trans HG.out G1.out⟩
        case measure => simp [intOf]; omega
    · obtain rfl : k = ts.length := by omega
      go_wp2
      go_ret
      exact ⟨-1, .inl rfl, rfl, HG.out⟩
end Go.Proofs.YtblpknkgjkbacaaGreatDoor
namespace Go.Proofs.YtblpknkgjkbacaaGreatDoor
open Go.RowKit
attribute [local go_sem ↓] Go.wp_at_zero Go.wp_at_succ
def ClonedTerms (ts : List TermD) (w : World) (e : Ending) (w' : World) : Prop :=
  ∃ v, e = .returned v ∧ TermRow w' w.heap.size v ts ∧ w.grownBy w' none
set_option maxRecDepth 100000 in
set_option maxHeartbeats 1000000 in
theorem cloneTerm_any (b off cap : Nat) (ts : List TermD) (w : World) (hl : ts.length ≤ 1000) (hc : ∀ j u, (ts.flatMap termCells)[j]? = some u → w.cell? ⟨b, off + j, none⟩ = some u) :
    Calls Tryz.prog 47 #[.slice (some ⟨b, off, none⟩) ts.length cap] w (ClonedTerms ts w) := by
  have H := Lib.hid hc
  clear hc
  obtain ⟨i0, hi, hz0, hz1, hz2⟩ := info_parts Tryz.infoTerm
  have hnil := fun W => Lib.run_eql_slice_nil (P := Tryz.prog) W 26 54 (some ⟨b, off, none⟩) ts.length cap 0 0 Tryz.underlying26
  go_enter Tryz.func47, Tryz.ntmps47
  go_wp2_with (first | (at_builtin; go_must (refine wpList_append_own _ rfl _ _ 26 rfl w.heap.size 54 i0 (.agg #[.string ByteArray.empty, .int .i64 0]) 2 24 Tryz.underlying26 hi hz0 hz1 hz2 rfl (by decide) _ 0 [] rfl (World.ownsRow_made _ _ _ (Nat.le_refl _) (Nat.zero_le _) rfl) ⟨b, off, none⟩ ts.length cap (ts.flatMap termCells) rfl (flat_length (f := termCells) (k := 2) (fun _ => rfl) ts) ?_ ?_ (by unfold maxLen; omega) (by omega) (by simp) ?_)))
  · intro j u hj
    have hadd : (⟨b, off, none⟩ : Addr).add j = ⟨b, off + j, none⟩ := by unfold Addr.add; split <;> simp_all
    rw [hadd]
    exact (World.grownBy_alloc _ _ none).cell (H.out j u hj) (by simp)
  · intro u hu
    obtain ⟨t, _, ht⟩ := List.mem_flatMap.1 hu
    simp [termCells] at ht
    rcases ht with rfl | rfl <;> rfl
  · intro v' w' ho hg _
    have HO := Lib.hid ho
    have HG := Lib.hid hg
    clear ho hg
    go_wp2
    go_ret
    exact ⟨v', rfl, HO.out, grown_own (World.grownBy_alloc _ _ _) HG.out (fun i hi => by simp [Value.ownBlock] at hi; omega)⟩
theorem flat_set {us : List TermD} {i : Nat} (h : i < us.length) (t : TermD) : ((us.flatMap termCells).set (i * 2) (.string t.1)).set (i * 2 + 1) (.int .i64 t.2) = (us.set i t).flatMap termCells := by
  induction us generalizing i with
  | nil => simp at h
  | cons a r ih =>
    cases i with
    | zero => rfl
    | succ i =>
      have e : (i + 1) * 2 = (i * 2) + 1 + 1 := by omega
      rw [e]
      simp only [List.flatMap_cons, termCells, List.cons_append, List.nil_append, List.set_cons_succ, List.cons.injEq, true_and]
      exact ih (by simpa using h)
theorem TermRow.stored {w : World} {P g n cap : Nat} {us : List TermD} (h : TermRow w P (.slice (some ⟨g, 0, none⟩) n cap) us) {i : Nat} (hi : i < us.length) (t : TermD) :
    TermRow ((w.setCell ⟨g, i * 2, none⟩ (.string t.1)).setCell ⟨g, i * 2 + 1, none⟩ (.int .i64 t.2)) P (.slice (some ⟨g, 0, none⟩) n cap) (us.set i t) := by
  obtain ⟨p, c, hv⟩ := own_form h
  cases hv
  have a := (World.ownsRow.stored h (i * 2) (.string t.1)).1
  have b := (World.ownsRow.stored a (i * 2 + 1) (.int .i64 t.2)).1
  unfold TermRow
  rw [← flat_set hi t, List.length_set]
  exact b
def DelPost (P : Nat) (v : Value) (ts : List TermD) (w : World) (e : Ending) (w' : World) : Prop :=
  ∃ n cap us g, e = .returned (.slice (some ⟨g, 0, none⟩) n cap) ∧ us.length = n ∧ n ≤ ts.length ∧ v.ownBlock = some g ∧ TermRow w' P (.slice (some ⟨g, 0, none⟩) n cap) us ∧ (∀ t ∈ us, t ∈ ts) ∧ w.grownBy w' (some g)
theorem own_free {w : World} {P : Nat} {e : TypeId} {size n cap g : Nat} {xs : List Value} (h : w.ownsRow P e size (.slice (some ⟨g, 0, none⟩) n cap) n xs) : n ≤ cap ∧ cap ≤ maxLen ∧ P ≤ g ∧ (∀ j, w.frozen? ⟨g, j, none⟩ = false) ∧ ∃ cur, w.heap[g]? = some (.cells cur e (0, 0)) ∧ cur.size = cap * size ∧ cur.toList.take (n * size) = xs := by
  rcases h.2 with ⟨hv, _⟩ | ⟨g', cap', cur, hv, hb, hg, hn, hc, hs, ht⟩
  · cases hv
  · obtain ⟨hgg, _, rfl⟩ := Value.slice.inj hv
    simp only [Option.some.injEq, Addr.mk.injEq, and_true] at hgg
    subst hgg
    exact ⟨hn, hc, hb, fun j => by simp [World.frozen?, hg], cur, hg, hs, ht⟩
theorem TermRow.free {w : World} {P g n cap : Nat} {us : List TermD} (h : TermRow w P (.slice (some ⟨g, 0, none⟩) n cap) us) : n = us.length ∧ n ≤ cap ∧ cap ≤ maxLen ∧ P ≤ g ∧ ∀ j, w.frozen? ⟨g, j, none⟩ = false := by
  obtain ⟨p, c, hv⟩ := own_form h
  cases hv
  obtain ⟨h1, h2, h3, h4, _⟩ := own_free h
  exact ⟨rfl, h1, h2, h3, h4⟩
theorem TermRow.block {w : World} {P g n cap : Nat} {us : List TermD} (h : TermRow w P (.slice (some ⟨g, 0, none⟩) n cap) us) : ∃ cur, w.heap[g]? = some (.cells cur 54 (0, 0)) ∧ cur.size = cap * 2 := by
  obtain ⟨p, c, hv⟩ := own_form h
  cases hv
  obtain ⟨_, _, _, _, cur, h5, h6, _⟩ := own_free h
  exact ⟨cur, h5, h6⟩
theorem TermRow.cut {w w' : World} {P g n cap i : Nat} {us : List TermD} {cur : Array Value} (h : TermRow w P (.slice (some ⟨g, 0, none⟩) n cap) us) (hi : i ≤ us.length) (hc : w.heap[g]? = some (.cells cur 54 (0, 0))) (hp : ClearPost g (i * 2) cur 54 w w') :
    TermRow w' P (.slice (some ⟨g, 0, none⟩) i cap) (us.take i) := by
  obtain ⟨p, c, hv⟩ := own_form h
  cases hv
  obtain ⟨h1, h2, h3, _, cur0, h5, h6, h7⟩ := own_free h
  rw [hc] at h5
  cases h5
  obtain ⟨cur', k1, k2, k3, _⟩ := hp
  have hl : (us.take i).length = i := by simp; omega
  have hx : cur'.toList.take (i * 2) = (us.take i).flatMap termCells := by
    rw [k3]
    have e : us = us.take i ++ us.drop i := (List.take_append_drop i us).symm
    have e2 : us.flatMap termCells = (us.take i).flatMap termCells ++ (us.drop i).flatMap termCells := by rw [← List.flatMap_append, ← e]
    have e3 : cur.toList.take (i * 2) = (us.flatMap termCells).take (i * 2) := by rw [← h7, List.take_take, Nat.min_eq_left (by omega)]
    rw [e3, e2, List.take_left' (by rw [flat_length (f := termCells) (k := 2) (fun _ => rfl), hl])]
  unfold TermRow
  rw [hl]
  exact ⟨by rw [flat_length (f := termCells) (k := 2) (fun _ => rfl), hl], .inr ⟨g, cap, cur', rfl, h3, k1, by omega, h2, by rw [k2, h6], hx⟩⟩
theorem Tryz.zeroTerm (w : World) : (zeroValue 54).run Tryz.prog w = .ok (.agg #[.string ByteArray.empty, .int .i64 0]) w := by kernel_rfl
set_option maxRecDepth 100000 in
set_option maxHeartbeats 2000000 in
theorem deleteTerm_any (P g n cap : Nat) (ts : List TermD) (w : World) (hl : ts.length ≤ 1000) (h : TermRow w P (.slice (some ⟨g, 0, none⟩) n cap) ts) :
    Calls Tryz.prog 46 #[.slice (some ⟨g, 0, none⟩) n cap, .func (.func 48) #[] #[]] w (DelPost P (.slice (some ⟨g, 0, none⟩) n cap) ts w) := by
  obtain ⟨p, c, hv⟩ := own_form h
  cases hv
  obtain ⟨f1, f2, f3, f4, _⟩ := own_free h
  have H := Lib.hid h
  clear h
  go_enter Tryz.func46, Tryz.ntmps46
  go_wp2_with (first | (go_at_call 63; go_must (refine (indexTerm_any P _ ts w (by omega) H.out).mono ?_; rintro e w1 ⟨k0, hk0, rfl, hg1⟩; have HR1 := Lib.hid (H.out.kept hg1); have HG1 := Lib.hid (grownBy_any (some g) hg1); clear hg1; rcases hk0 with rfl | ⟨q1, q2, q3⟩)))
  · go_ret
    exact ⟨_, _, ts, g, rfl, rfl, Nat.le_refl _, rfl, HR1.out, fun t h => h, HG1.out⟩
  · obtain ⟨i0, rfl⟩ : ∃ i : Nat, k0 = i := ⟨k0.toNat, by omega⟩
    go_wp2
    go_loopw [5, 6] (fun i j wr => ∃ (ki kj : Nat) (us : List TermD), ki < kj ∧ kj ≤ ts.length ∧ i = .int .i64 ki ∧ j = .int .i64 kj ∧ Hid (us.length = ts.length) ∧ Hid (TermRow wr P (.slice (some ⟨g, 0, none⟩) ts.length cap) us) ∧ Hid (∀ t ∈ us, t ∈ ts) ∧ Hid (w.grownBy wr (some g))) (fun _ j _ => ts.length - (intOf j).toNat)
    case atStart => exact ⟨i0, i0 + 1, ts, by omega, by omega, rfl, by go_num, rfl, HR1.out, fun t h => h, HG1.out⟩
    case round =>
      obtain ⟨ki, kj, us, hij, hj, rfl, rfl, HUl, HR, HM, HG⟩ := hrel
      by_cases hlt : kj < ts.length
      · have hju : kj < us.length := by rw [HUl.out]; exact hlt
        have hiu : ki < us.length := by omega
        obtain ⟨g', hg', c0, c1⟩ := HR.out.cells (List.getElem?_eq_getElem hju)
        obtain ⟨g2, hg2, d0, d1⟩ := HR.out.cells (List.getElem?_eq_getElem hiu)
        simp only [Option.some.injEq, Addr.mk.injEq, and_true] at hg' hg2
        subst hg' hg2
        have z4 := HR.out.free.2.2.2.2
        have HMem := Lib.hid (HM.out _ (List.getElem_mem hju))
        have HX := Lib.hid (show us[kj] = ((us[kj]).1, (us[kj]).2) from rfl)
        generalize hn : (us[kj]).1 = nm at *
        generalize hz : (us[kj]).2 = z at *
        generalize (us[ki]).1 = nm2 at *
        generalize (us[ki]).2 = z2 at *
        have HNz := Lib.hid (show (nm, z) ∈ ts by rw [← HX.out]; exact HMem.out)
        have HIu := Lib.hid hiu
        clear HX HMem hn hz
        clear hju hiu
        go_wp2_with (first | (go_at_call 48; go_must (refine (form1_any nm z _).mono ?_; rintro e w2 ⟨rfl, hg2⟩; have G2 := Lib.hid (grownBy_trans (World.grownBy_alloc wr (.cells #[.string nm, .int .i64 z] 54) none) hg2); have b0 := hg2.cell (a := ⟨wr.heap.size, 0, none⟩) (v := .string nm) (by simp) (by simp); have b1 := hg2.cell (a := ⟨wr.heap.size, 1, none⟩) (v := .int .i64 z) (by simp) (by simp); have e0 := G2.out.cell d0 (by simp); have e1 := G2.out.cell d1 (by simp); have ef := (HR.out.kept G2.out).free.2.2.2.2; clear hg2)))
        · have hiu := HIu.out
          go_roundw
          case rel =>
            refine ⟨ki + 1, kj + 1, us.set ki (nm, z), by omega, by omega, by go_num, by go_num, ?_, ?_, ?_, ?_⟩
            · show _ = _
              rw [List.length_set]
              exact HUl.out
            · exact (HR.out.kept G2.out).stored hiu (nm, z)
            · intro t ht
              rcases List.mem_or_eq_of_mem_set ht with ht | rfl
              · exact HM.out t ht
              · exact HNz.out
            · exact grownBy_trans HG.out (grownBy_trans (grownBy_any _ G2.out) (grownBy_trans (grown_set _ _ _ _) (grown_set _ _ _ _)))
          case measure => simp [intOf]; omega
        · go_roundw
          case rel => exact ⟨ki, kj + 1, us, by omega, by omega, by go_num, by go_num, HUl.out, HR.out.kept G2.out, HM.out, grownBy_trans HG.out (grownBy_any _ G2.out)⟩
          case measure => simp [intOf]; omega
      · obtain rfl : kj = ts.length := by omega
        obtain ⟨cur, z1, z2⟩ := HR.out.block
        have hi1 : (ki : Int) ≤ (ts.length : Int) := by omega
        have hi2 : (0 : Int) ≤ (ki : Int) := by omega
        have hi3 : (ki : Int) ≤ (cap : Int) := by omega
        obtain ⟨w2, hrun, hcp⟩ := run_clear_row (P := Tryz.prog) wr 26 54 0 (.agg #[.string ByteArray.empty, .int .i64 0]) 2 Tryz.underlying26 Tryz.zeroTerm rfl (by decide) g (ki * 2) (ts.length - ki) (cap - ki) cur 54 z1 (by omega)
        have HC := Lib.hid hcp
        clear hcp
        go_wp2
        go_ret
        have hul := HUl.out
        refine ⟨_, _, us.take ki, g, rfl, by simp; omega, by omega, rfl, HR.out.cut (by omega) z1 HC.out, fun t ht => HM.out t (List.mem_of_mem_take ht), ?_⟩
        obtain ⟨_, _, _, _, hgg⟩ := HC.out
        exact grownBy_trans HG.out hgg
end Go.Proofs.YtblpknkgjkbacaaGreatDoor
namespace Go.Proofs.YtblpknkgjkbacaaGreatDoor
/-- What slices.Compare says of two lists of numbers. -/
def cmpL : List Int → List Int → Int
  | [], [] => 0
  | [], _ :: _ => -1
  | _ :: _, [] => 1
  | x :: r, y :: s => if x < y then -1 else if y < x then 1 else cmpL r s
theorem cmpL_self : ∀ x : List Int, cmpL x x = 0
  | [] => rfl
  | a :: r => by simp [cmpL, cmpL_self r]
theorem cmpL_range : ∀ x y : List Int, cmpL x y = -1 ∨ cmpL x y = 0 ∨ cmpL x y = 1
  | [], [] => .inr (.inl rfl)
  | [], _ :: _ => .inl rfl
  | _ :: _, [] => .inr (.inr rfl)
  | a :: r, b :: s => by
    simp only [cmpL]
    split
    · exact .inl rfl
    · split
      · exact .inr (.inr rfl)
      · exact cmpL_range r s
theorem cmpL_anti : ∀ x y : List Int, cmpL y x = - cmpL x y
  | [], [] => rfl
  | [], _ :: _ => rfl
  | _ :: _, [] => rfl
  | a :: r, b :: s => by
    simp only [cmpL]
    rcases Int.lt_trichotomy a b with h | h | h
    · simp [h, show ¬ b < a by omega]
    · subst h
      simp only [Int.lt_irrefl, if_false]
      exact cmpL_anti r s
    · simp [h, show ¬ a < b by omega]
theorem cmpL_zero : ∀ x y : List Int, cmpL x y = 0 → x = y
  | [], [], _ => rfl
  | [], _ :: _, h => by simp [cmpL] at h
  | _ :: _, [], h => by simp [cmpL] at h
  | a :: r, b :: s, h => by
    simp only [cmpL] at h
    split at h
    · simp at h
    · split at h
      · simp at h
      · have : a = b := by omega
        rw [this, cmpL_zero r s h]
theorem cmpL_trans : ∀ x y z : List Int, cmpL x y < 0 → cmpL y z < 0 → cmpL x z < 0
  | [], [], _, h, _ => by simp [cmpL] at h
  | [], _ :: _, [], _, h => by simp [cmpL] at h
  | [], _ :: _, _ :: _, _, _ => by simp [cmpL]
  | _ :: _, [], _, h, _ => by simp [cmpL] at h
  | _ :: _, _ :: _, [], _, h => by simp [cmpL] at h
  | a :: r, b :: s, c :: t, h, k => by
    simp only [cmpL] at h k ⊢
    rcases Int.lt_trichotomy a b with h1 | h1 | h1
    · rcases Int.lt_trichotomy b c with h2 | h2 | h2
      · rw [if_pos (by omega)]; decide
      · rw [if_pos (by omega)]; decide
      · rw [if_neg (by omega), if_pos h2] at k
        simp at k
    · subst h1
      simp only [Int.lt_irrefl, if_false] at h
      rcases Int.lt_trichotomy a c with h2 | h2 | h2
      · rw [if_pos h2]; decide
      · subst h2
        simp only [Int.lt_irrefl, if_false] at k ⊢
        exact cmpL_trans r s t h k
      · rw [if_neg (by omega), if_pos h2] at k
        simp at k
    · rw [if_neg (by omega), if_pos h1] at h
      simp at h
theorem cmpL_le_trans {x y z : List Int} (h : ¬ cmpL y x < 0) (k : ¬ cmpL z y < 0) : ¬ cmpL z x < 0 := by
  have h1 := cmpL_anti x y
  have h2 := cmpL_anti y z
  have h3 := cmpL_anti x z
  rcases cmpL_range x y with a | a | a
  · rcases cmpL_range y z with b | b | b
    · have := cmpL_trans x y z (by omega) (by omega)
      omega
    · obtain rfl := cmpL_zero _ _ b
      omega
    · omega
  · obtain rfl := cmpL_zero _ _ a
    exact k
  · omega
end Go.Proofs.YtblpknkgjkbacaaGreatDoor
