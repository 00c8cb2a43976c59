/-
 FormList: forms that a stream draws.
 Projected by the reference's tables.
 Implies by the reference's range.
 wbref1.ProjectedIn, if a table of one name is written as a form.
-/
import Derived.Test.YtfilcaolgfghcaaGreatAnyForm
import Derived.Test.YtfilcaolgfghcaaGreatNamesC
import Derived.Test.YtfilcaolgfghcaaGreatImage
namespace Go.Proofs.YtfilcaolgfghcaaGreat
open Go.RowKit
attribute [local go_sem ↓] Go.wp_at_zero Go.wp_at_succ

/-- Forms by value, in blocks of the call's own. -/
def FormListOf (B m : Nat) (w : World) (e : Ending) (w' : World) : Prop := ∃ v fl tvs, e = .returned v ∧ fl.length ≤ 3 ∧ CSt w' w.heap.size v fl tvs ∧ Drawn B m w w'

theorem Tryz.infoFormL : (Tryz.prog.info? 33).map (fun i => (i.zero, i.size, i.bytes)) = some (some (.agg #[.int .i64 0, .slice none 0 0]), 2, 32) := by kernel_rfl

set_option maxRecDepth 100000 in
set_option maxHeartbeats 4000000 in
theorem formList_any (B m : Nat) (w : World) (hs : StreamAt w B m) (hm : m ≤ 900000) :
    Calls Tryz.prog 6 #[.pointer (some ⟨B, 0, none⟩), .int .i64 3] w (FormListOf B (m + 100) w) := by
  have hB := hs.lt
  have HS := Lib.hid hs
  clear hs
  obtain ⟨j0, hj0, hy0, hy1, hy2⟩ := info_parts Tryz.infoFormL
  go_enter Tryz.func6, Tryz.ntmps6
  go_wp2_with (first
    | (go_at_call 29; go_must (refine (range_any B m 0 3 w HS.out (by omega) (by omega) (by omega) (by omega)).mono ?_; rintro e w1 ⟨z, hz0, hz3, rfl, hd⟩; have HD1 := Lib.hid hd; clear hd)))
  obtain ⟨n, rfl⟩ := Int.eq_ofNat_of_zero_le hz0
  go_loopw [5, 9] (fun v i wr => ∃ (k : Nat) (fl : List CondD) (tvs : List Value), k ≤ n ∧ i = .int .i64 k ∧ Hid (fl.length = k) ∧ Hid (Drawn B (m + 1 + 10 * k) w wr) ∧ Hid (CSt wr w.heap.size v fl tvs)) (fun _ i _ => n - (intOf i).toNat)
  case atStart => exact ⟨0, [], [], Nat.zero_le _, rfl, rfl, HD1.out, CSt.start _ _⟩
  case round =>
    obtain ⟨k, fl, tvs, hk, rfl, HLen, HD, HC⟩ := hrel
    by_cases hlt : k < n
    · obtain ⟨pr, rcap, hrv⟩ := own_form HC.out.row
      rw [HLen.out] at hrv
      subst hrv
      have hsz := HD.out.1.size
      go_wp2_with (first
        | (go_at_call 5; go_must (refine (anyForm_any B (m + 1 + 10 * k) wr HD.out.2 (by omega)).mono ?_; rintro e w2 ⟨c, p2, n2, cap2, ts, rfl, hts, hn2, hc2, ht2, hgt, hd2⟩; have HTs := Lib.hid hts; have HC2 := Lib.hid hc2; have HT2 := Lib.hid ht2; have HGt := Lib.hid hgt; have HD2 := Lib.hid hd2; have hs2 := hd2.1.size; have HCk := Lib.hid (HC.out.kept hd2.1 (fun k hk => by cases hk; omega)); clear hts hc2 ht2 hgt hd2))
        | (at_builtin; go_must (refine wpList_append_lies _ rfl _ _ 27 rfl w.heap.size 33 j0 (.agg #[.int .i64 0, .slice none 0 0]) 2 32 Tryz.underlying27 hj0 hy0 hy1 hy2 rfl (by decide) (.slice pr k rcap) fl.length ((fl.zip tvs).flatMap condCells) rfl (World.ownsRow.alloc HCk.out.row _) ⟨w2.heap.size, 0, none⟩ 1 1 (condCells ((c, ts), .slice p2 n2 cap2)) rfl rfl news_at (by simp [condCells, Value.oneCell']) (by decide) (by have := HLen.out; unfold maxLen; omega) (by have := HLen.out; omega) (by simp; omega) (w2.heap.size + 1) (by simp) ?_; intro g ncap w7 hown7 hgrow7 hat _; have O7 := Lib.hid hown7; have A7 := Lib.hid hat; have G7 := Lib.hid hgrow7; clear hown7 hgrow7 hat)))
      go_roundw
      case rel =>
        have hlen := HLen.out
        have hts := HTs.out
        have hw := World.grownBy_alloc w2 (.cells (condCells ((c, ts), .slice p2 n2 cap2)).toArray 33) none
        refine ⟨k + 1, fl ++ [(c, ts)], tvs ++ [.slice p2 n2 cap2], by omega, by go_num, ?_, ?_, ?_⟩
        · show _ = _
          simp [hlen]
        · have h1 := (HD.out.trans HD2.out).own (grownBy_trans (grownBy_any _ hw) G7.out) (by omega) (fun i hi => (HC.out.row.lt _ hi).1)
          exact h1.more (by omega)
        · have h := HC.out.push (cv' := .slice (some ⟨g, 0, none⟩) (fl.length + 1) ncap) (c := c) (ts := ts) (tv := .slice p2 n2 cap2) (by omega) (by omega) HD2.out.1 HT2.out (grownBy_trans (grownBy_any _ hw) G7.out) O7.out rfl (by rcases A7.out with h | h; exact .inl h; exact .inr (by omega)) ⟨HC2.out, by omega, HGt.out⟩
          exact h
      case measure => simp [intOf]; omega
    · obtain rfl : k = n := by omega
      go_wp2
      go_ret
      exact ⟨_, fl, tvs, rfl, by have := HLen.out; omega, HC.out, HD.out.more (by omega)⟩

end Go.Proofs.YtfilcaolgfghcaaGreat

namespace Go.Proofs.YtfilcaolgfghcaaGreat
open Go.RowKit

/-- Variables as forms. -/
def varForms (ns : List ByteArray) : List CondD := ns.map fun x => (0, [(x, 1)])
theorem var_rows (S : List SideD × List CondD) (ns : List ByteArray) : ns.map (varRow S) = (varForms ns).map (rowD S) := by
  unfold varForms
  rw [List.map_map]
  rfl
theorem var_errs {sn ns : List ByteArray} (h : namesGo sn [] ns = 0) : ∀ f ∈ varForms ns, aroundErr sn f = 0 := by
  intro f hf
  obtain ⟨x, hx, rfl⟩ := List.mem_map.1 hf
  obtain ⟨h1, h2⟩ := nameErr_good (namesGo_all ns [] h x hx)
  unfold aroundErr
  simp [h1, h2]
/-- What Projected lists is what the tables have. -/
theorem proj_table {S : List SideD × List CondD} {ns : List ByteArray} {t u : List (List Int)} (hS : setErr S = 0) (hn : namesGo (namesOf S.1) [] ns = 0) (ht : t.Perm (distL (ns.map (varRow S)) (pointsFrom S [] S.1))) (hr : Rising t)
    (hu : u.Perm ((pointsFrom S [] S.1).map (valsF S.1 (varForms ns)))) (hru : Rising u) : compactL u = t := by
  rw [var_rows, dist_table hS (var_errs hn)] at ht
  exact table_eq hu hru ht hr rfl
theorem proj_len {S : List SideD × List CondD} {ns : List ByteArray} {u : List (List Int)} (hS : setErr S = 0) (hn : namesGo (namesOf S.1) [] ns = 0)
    (hu : u.Perm ((pointsFrom S [] S.1).map (valsF S.1 (varForms ns)))) (hru : Rising u) : (compactL u).length = (distL (ns.map (varRow S)) (pointsFrom S [] S.1)).length := by
  rw [var_rows, dist_table hS (var_errs hn), table_len hu hru]

end Go.Proofs.YtfilcaolgfghcaaGreat

namespace Go.Proofs.YtfilcaolgfghcaaGreat
open Go.RowKit

theorem range_fold : ∀ (vs : List Int) (acc : Int × Int × Bool), acc.2.2 = true → (vs.foldl rangeStep acc).2.2 = true ∧ (0 ≤ (vs.foldl rangeStep acc).1 ↔ 0 ≤ acc.1 ∧ ∀ v ∈ vs, 0 ≤ v)
  | [], acc, h => ⟨h, by simp⟩
  | v :: r, acc, h => by
    have e : rangeStep acc v = (min acc.1 v, max acc.2.1 v, true) := by simp [rangeStep, h]
    obtain ⟨h1, h2⟩ := range_fold r (rangeStep acc v) (by rw [e])
    refine ⟨h1, ?_⟩
    simp only [List.foldl_cons]
    rw [h2, e]
    simp only [List.mem_cons, forall_eq_or_imp]
    constructor
    · rintro ⟨a, b⟩
      exact ⟨by omega, by omega, b⟩
    · rintro ⟨a, b, c⟩
      exact ⟨by omega, c⟩
theorem range_least (vs : List Int) : (!(rangeOf vs).2.2 || decide (0 ≤ (rangeOf vs).1)) = vs.all (fun v => decide (0 ≤ v)) := by
  cases vs with
  | nil => rfl
  | cons v r =>
    obtain ⟨h1, h2⟩ := range_fold r (v, v, true) rfl
    have e : rangeOf (v :: r) = r.foldl rangeStep (v, v, true) := by simp [rangeOf, rangeStep]
    rw [e, h1, Bool.not_true, Bool.false_or, Bool.eq_iff_iff, decide_eq_true_iff, h2, List.all_eq_true]
    simp
/-- Implies is what the least value says. -/
theorem implies_range {S : List SideD × List CondD} {f : CondD} (h : overErr S f = 0) : impliesOf S f = (!(rangeF S f).2.2 || decide (0 ≤ (rangeF S f).1)) := by
  rw [impliesOf_eq h, rangeF_eq h, range_least, List.all_map]
  rfl

/-- The first fault of forms, told from the end of those before. -/
theorem firstErr_split {names : List ByteArray} {f : CondD} : ∀ {l : List CondD}, firstErr names (l ++ [f]) = errTwo (firstErr names l) (aroundErr names f)
  | [] => by
    by_cases h : aroundErr names f = 0 <;> simp [firstErr, errTwo, h]
  | g :: r => by
    simp only [List.cons_append, firstErr]
    by_cases hg : aroundErr names g = 0
    · rw [if_pos hg, if_pos hg, firstErr_split]
    · rw [if_neg hg, if_neg hg]
      simp [errTwo, hg]

end Go.Proofs.YtfilcaolgfghcaaGreat

namespace Go.Proofs.YtfilcaolgfghcaaGreat
open Go.RowKit Go.Maps Go.WideMaps
attribute [local go_sem ↓] Go.wp_at_zero Go.wp_at_succ

/-- A table of one name as a form. -/
def PolyFormOk : Prop := ∀ (x : ByteArray) (Bm : Nat) (w : World), nameB x = true → MapAt w Bm 1 ((.map [] : Table).put (strL x) (lit64 1)) →
  Calls Tryz.prog 58 #[.map (some Bm)] w (fun e w' => ∃ p cap, e = .returned (.agg #[.int .i64 0, .slice p 1 cap]) ∧ TermRow w' w.heap.size (.slice p 1 cap) [(x, 1)] ∧ w.grownBy w' none)

set_option maxRecDepth 100000 in
set_option maxHeartbeats 4000000 in
theorem projectedIn_any (hP : PolyFormOk) (S : List SideD × List CondD) (ns : List ByteArray) (sv cv nv : Value) (w : World) (hS : SetAt w sv cv S) (hgood : setErr S = 0) (hn : StrsAt w nv ns) (hx : ∀ x ∈ ns, nameB x = true) (h8 : ns.length ≤ 8) :
    Calls Tryz.prog 20 #[.agg #[sv, cv], nv] w (TablePost ((pointsFrom S [] S.1).map (valsF S.1 (varForms ns))) w) := by
  obtain ⟨⟨p, cap, rfl, ⟨hsl, hscc⟩, hsc⟩, ⟨pc, ccap, rfl, hcl, hcc⟩⟩ := id hS
  obtain ⟨pl, lcap, rfl, hnl, hnc⟩ := id hn
  have HS := Lib.hid hS
  have HN := Lib.hid hn
  have HX := Lib.hid hx
  have HP := Lib.hid hP
  clear hS hn hsc hcc hnc hx hP
  obtain ⟨j0, hj0, hy0, hy1, hy2⟩ := info_parts Tryz.infoFormL
  have hmm := @run_makeMap Tryz.prog
  go_enter Tryz.func20, Tryz.ntmps20
  go_wp2
  have HB := Lib.hid (World.grownBy_alloc w (.cells #[.slice p S.1.length cap, .slice pc S.2.length ccap] 29) none)
  have HA := Lib.hid (cell_of_two (heap_alloc_new w (.cells #[.slice p S.1.length cap, .slice pc S.2.length ccap] 29)))
  have HSz := Lib.hid (show w.heap.size + 1 = (w.alloc (.cells #[.slice p S.1.length cap, .slice pc S.2.length ccap] 29)).heap.size by simp)
  generalize w.alloc (.cells #[.slice p S.1.length cap, .slice pc S.2.length ccap] 29) = w1 at *
  go_loopw [5, 10] (fun v i wr => ∃ (k : Nat) (tvs : List Value), k ≤ ns.length ∧ i = .int .i64 k ∧ Hid ((varForms (ns.take k)).length = k) ∧ Hid (w1.grownBy wr none) ∧ Hid (CSt wr (w.heap.size + 1) v (varForms (ns.take k)) tvs)) (fun _ i _ => ns.length - (intOf i).toNat)
  case atStart => exact ⟨0, [], Nat.zero_le _, rfl, rfl, grownBy_refl _ _, CSt.start _ _⟩
  case round =>
    obtain ⟨k, tvs, hk, rfl, HLen, HG, HC⟩ := hrel
    by_cases hlt : k < ns.length
    · obtain ⟨pr, rcap, hrv⟩ := own_form HC.out.row
      rw [HLen.out] at hrv
      subst hrv
      have hsz := HG.out.size
      have hsz1 := HSz.out
      have h0 := List.getElem?_eq_getElem hlt
      obtain ⟨p', cap', hv, _, hc⟩ := HN.out.kept (grownBy_trans HB.out HG.out)
      obtain ⟨rfl, _, rfl⟩ := Value.slice.inj hv
      obtain ⟨b, off, rfl, h3⟩ := hc k _ h0
      have HTk := Lib.hid (List.take_succ_eq_append_getElem hlt)
      have hxk := HX.out _ (List.getElem_mem hlt)
      have hx40 : ns[k].size ≤ 40 := by
        unfold nameB at hxk
        simp at hxk
        omega
      clear h0 hc hv
      generalize ns[k] = x at *
      go_wp2_with (first | (refine wpList_insert_own _ rfl _ _ _ 99 rfl 9 3 Tryz.lawStr Tryz.underlying99 (plainElem (H := Unit) Tryz.prog 3) wr.heap.size 0 (.map []) rfl ?_ (lt_maxLen 0 (Nat.zero_le _)) _ _ _ rfl rfl (key_str (by unfold maxLen; omega)) _ [] (plainElem_int Tryz.underlying3 ?_) ?_))
      · exact World.ownsMap_made (H := Unit) wr Tryz.prog 9 (plainElem Tryz.prog 3)
      · rfl
      intro w5 hown5 hg5
      have HM5 : Hid (MapAt w5 wr.heap.size 1 _) := hown5
      have HG5 : Hid (wr.grownBy w5 none) := grown_own (World.grownBy_alloc _ _ _) hg5 (fun i hi => by cases hi; omega)
      clear hown5 hg5
      have HC5 := Lib.hid (HC.out.kept HG5.out (fun k hk => by cases hk))
      have hs5 := HG5.out.size
      go_wp2_with (first
        | (go_at_call 58; go_must (refine (HP.out x wr.heap.size w5 hxk HM5.out).mono ?_; rintro e w6 ⟨p6, cap6, rfl, ht6, hg6⟩; have HT6 := Lib.hid ht6; have HG6 := Lib.hid hg6; have hs6 := hg6.size; have HC6 := Lib.hid (HC5.out.kept hg6 (fun k hk => by cases hk)); clear ht6 hg6))
        | (at_builtin; go_must (refine wpList_append_lies _ rfl _ _ 27 rfl (w.heap.size + 1) 33 j0 (.agg #[.int .i64 0, .slice none 0 0]) 2 32 Tryz.underlying27 hj0 hy0 hy1 hy2 rfl (by decide) (.slice pr k rcap) (varForms (ns.take k)).length (((varForms (ns.take k)).zip tvs).flatMap condCells) rfl (World.ownsRow.alloc HC6.out.row _) ⟨w6.heap.size, 0, none⟩ 1 1 (condCells ((0, [(x, 1)]), .slice p6 1 cap6)) rfl rfl news_at (by simp [condCells, Value.oneCell']) (by decide) (by have := HLen.out; unfold maxLen; omega) (by have := HLen.out; omega) (by simp; omega) (w6.heap.size + 1) (by simp) ?_; intro g ncap w7 hown7 hgrow7 hat _; have O7 := Lib.hid hown7; have A7 := Lib.hid hat; have G7 := Lib.hid hgrow7; clear hown7 hgrow7 hat)))
      go_roundw
      case rel =>
        have hlen := HLen.out
        have e1 : varForms (ns.take (k + 1)) = varForms (ns.take k) ++ [(0, [(x, 1)])] := by rw [HTk.out]; simp [varForms]
        have hw := World.grownBy_alloc w6 (.cells (condCells ((0, [(x, 1)]), .slice p6 1 cap6)).toArray 33) none
        refine ⟨k + 1, tvs ++ [.slice p6 1 cap6], by omega, by go_num, ?_, ?_, ?_⟩
        · show _ = _
          rw [e1, List.length_append, hlen]
          rfl
        · exact grown_own (grownBy_trans HG.out (grownBy_trans HG5.out (grownBy_trans HG6.out hw))) G7.out (fun i hi => by have := (HC.out.row.lt _ hi).1; omega)
        · have h := HC5.out.push (B := w.heap.size) (cv' := .slice (some ⟨g, 0, none⟩) ((varForms (ns.take k)).length + 1) ncap) (c := 0) (ts := [(x, 1)]) (tv := .slice p6 1 cap6) (by omega) (by omega) (grownBy_any _ HG6.out) HT6.out (grownBy_trans (grownBy_any _ hw) G7.out) O7.out rfl (by rcases A7.out with h | h; exact .inl h; exact .inr (by omega)) ⟨by unfold small; omega, by simp, fun t ht => by obtain rfl := List.mem_singleton.1 ht; exact ⟨by simp only; omega, by unfold small; simp⟩⟩
          show CSt _ _ _ _ _
          rw [e1]
          exact h
      case measure => simp [intOf]; omega
    · obtain rfl : k = ns.length := by omega
      have hc := HC.out
      rw [List.take_length] at hc
      obtain ⟨pr, rcap, hrv⟩ := own_form hc.row
      rw [show (varForms ns).length = ns.length by simp [varForms]] at hrv
      subst hrv
      have a0 := HG.out.cell HA.out.1 (by simp)
      have a1 := HG.out.cell HA.out.2.1 (by simp)
      have HT := Lib.hid (tables_any S (varForms ns) _ _ _ wr (HS.out.kept (grownBy_trans HB.out HG.out)) hgood (hc.conds (by simp [varForms]; omega)) (fun f hf => by
        obtain ⟨x, hx, rfl⟩ := List.mem_map.1 hf
        have h := varErr x
        rw [HX.out x hx] at h
        simpa using h) (by simp [varForms]; omega))
      clear hc
      go_wp2_with (first
        | (go_at_call 57; go_must (refine HT.out.mono ?_; rintro e w8 ⟨v, t, rfl, ht, hr, hat, hg8⟩; have HP8 := Lib.hid ht; have HR8 := Lib.hid hr; have HA8 := Lib.hid hat; have G8 := Lib.hid hg8; clear ht hr hat hg8)))
      go_ret
      exact ⟨v, t, rfl, HP8.out, HR8.out, HA8.out, grownBy_trans HB.out (grownBy_trans HG.out G8.out)⟩

end Go.Proofs.YtfilcaolgfghcaaGreat
