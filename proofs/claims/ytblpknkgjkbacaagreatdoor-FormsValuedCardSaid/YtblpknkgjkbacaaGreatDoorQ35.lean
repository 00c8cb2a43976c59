/-
 A point that a stream draws. Are sets equal, as they are written. Are forms, lists of them, and sets equal, as they are written.
-/
import Derived.Deep.AppendLies
import Derived.Deep.DeepMust
import Derived.Laws.StructEq
import Derived.BigQuiet
import Derived.Deep.QuietTactic
import Derived.Test.YtblpknkgjkbacaaGreatDoorQ10
import Derived.Test.YtblpknkgjkbacaaGreatDoorQ33
import Derived.Test.YtblpknkgjkbacaaGreatDoorQ34
namespace Go.Proofs.YtblpknkgjkbacaaGreatDoor
set_option linter.unusedVariables false
open Go.RowKit
variable {w w' w0 : World} {B m m2 : Nat} {v : Value} {ts : List (ByteArray × Int)}
theorem Tryz.infoSlot : (Tryz.prog.info? 61).map (fun i => (i.zero, i.size, i.bytes)) = some (some (.agg #[.string ByteArray.empty, .int .i64 0]), 2, 24) := by kernel_rfl
/-- Slots so far, in a row of the call's own; the names. -/
structure PSt (B m : Nat) (w0 w : World) (v : Value) (ts : List (ByteArray × Int)) : Prop where
  drawn : Drawn B m w0 w
  row : w.ownsRow (w0.heap.size + 1) 61 2 v ts.length (ts.flatMap termCells)
  names : w.heap[w0.heap.size]? = some (.cells #[.string ⟨#[105]⟩, .string ⟨#[106]⟩] 9 (0, 0))
  good : ∀ t ∈ ts, goodTerm t
theorem PSt.draw (h : PSt B m w0 w v ts) (hB : B < w0.heap.size) (hd : Drawn B m2 w w') : PSt B m2 w0 w' v ts :=
  ⟨h.drawn.trans hd, owns_under h.row hd.1 (fun k hk => by cases hk; omega), heap_keep h.names hd.1 (by simp; omega), h.good⟩
theorem PSt.grown (h : PSt B m w0 w v ts) (hg : w.grownBy w' none) : PSt B m w0 w' v ts := ⟨h.drawn.grown hg, owns_kept h.row hg, heap_keep h.names hg (by simp), h.good⟩
theorem PSt.more (h : PSt B m w0 w v ts) (hm : m ≤ m2) : PSt B m2 w0 w v ts := ⟨h.drawn.more hm, h.row, h.names, h.good⟩
theorem PSt.push {t : ByteArray × Int} {g' cap : Nat} (h : PSt B m w0 w v ts) (hB : B < w0.heap.size) (hg : w.grownBy w' v.ownBlock) (ho : w'.ownsRow (w0.heap.size + 1) 61 2 (.slice (some ⟨g', 0, none⟩) (ts.length + 1) cap) (ts.length + 1) (ts.flatMap termCells ++ termCells t)) (ht : goodTerm t) :
    PSt B m w0 w' (.slice (some ⟨g', 0, none⟩) (ts ++ [t]).length cap) (ts ++ [t]) := by
  refine ⟨h.drawn.own hg hB (fun i hi => by have := (h.row.lt i hi).1; omega), ?_, heap_keep h.names hg (fun e => by have := (h.row.lt _ e).1; omega), fun u hu => ?_⟩
  · rw [List.length_append, List.flatMap_append]
    simpa using ho
  · rcases List.mem_append.1 hu with hu | hu
    · exact h.good u hu
    · rw [List.mem_singleton.1 hu]
      exact ht
theorem PSt.cut {g n cap : Nat} {t : ByteArray × Int} {r : List (ByteArray × Int)} (h : PSt B m w0 w (.slice (some ⟨g, 0, none⟩) n cap) (t :: r)) : PSt B m w0 w (.slice (some ⟨g, 0, none⟩) 1 cap) [t] := by
  refine ⟨h.drawn, ?_, h.names, fun u hu => h.good u (by rw [List.mem_singleton.1 hu]; exact List.mem_cons_self ..)⟩
  obtain ⟨h1, h2⟩ := h.row
  rcases h2 with ⟨e, _⟩ | ⟨g', cap', cur, e, a, b, c, d, f, k⟩
  · cases e
  · obtain ⟨e1, e2, e3⟩ := Value.slice.inj e
    cases e1
    subst e3
    refine ⟨rfl, .inr ⟨g, cap, cur, rfl, a, b, (by have h9 : (t :: r).length ≤ cap := c; rw [List.length_cons] at h9; show 1 ≤ cap; omega), d, f, ?_⟩⟩
    have := congrArg (List.take 2) k
    rw [List.take_take, Nat.min_eq_left (by rw [List.length_cons]; omega)] at this
    simpa [termCells] using this
theorem PSt.setName {g n cap : Nat} {t : ByteArray × Int} {r : List (ByteArray × Int)} (h : PSt B m w0 w (.slice (some ⟨g, 0, none⟩) n cap) (t :: r)) (hB : B < w0.heap.size) (s : ByteArray) (hs : s.size ≤ 100) : PSt B m w0 (w.setCell ⟨g, 0, none⟩ (.string s)) (.slice (some ⟨g, 0, none⟩) n cap) ((s, t.2) :: r) := by
  obtain ⟨_, _, e⟩ := own_form h.row
  obtain ⟨_, e2, _⟩ := Value.slice.inj e
  have hrow := h.row
  rw [← e2] at hrow
  obtain ⟨s1, s2⟩ := hrow.stored 0 (.string s)
  have hg := (h.row.lt g rfl).1
  refine ⟨h.drawn.own s2 hB (fun i hi => by cases hi; omega), ?_, heap_keep h.names s2 (fun e => by cases e; omega), fun u hu => ?_⟩
  · rw [show ((s, t.2) :: r).length = n by rw [e2]; rfl]
    simpa [termCells] using s1
  · rcases List.mem_cons.1 hu with rfl | hu
    · exact ⟨hs, (h.good t (List.mem_cons_self ..)).2⟩
    · exact h.good u (List.mem_cons_of_mem _ hu)
theorem PSt.setVal {g n cap : Nat} {t u : ByteArray × Int} (h : PSt B m w0 w (.slice (some ⟨g, 0, none⟩) n cap) [t, u]) (hB : B < w0.heap.size) (z : Int) (hz : small z) : PSt B m w0 (w.setCell ⟨g, 3, none⟩ (.int .i64 z)) (.slice (some ⟨g, 0, none⟩) n cap) [t, (u.1, z)] := by
  obtain ⟨_, _, e⟩ := own_form h.row
  obtain ⟨_, e2, _⟩ := Value.slice.inj e
  have hrow := h.row
  rw [← e2] at hrow
  obtain ⟨s1, s2⟩ := hrow.stored 3 (.int .i64 z)
  have hg := (h.row.lt g rfl).1
  refine ⟨h.drawn.own s2 hB (fun i hi => by cases hi; omega), ?_, heap_keep h.names s2 (fun e => by cases e; omega), fun x hx => ?_⟩
  · rw [show ([t, (u.1, z)] : List (ByteArray × Int)).length = n by rw [e2]; rfl]
    simpa [termCells] using s1
  · rcases List.mem_cons.1 hx with rfl | hx
    · exact h.good x (List.mem_cons_self ..)
    · rw [List.mem_singleton.1 hx]
      exact ⟨(h.good u (by simp)).1, hz⟩
theorem PSt.two {g cap : Nat} {t u : ByteArray × Int} (h : PSt B m w0 w (.slice (some ⟨g, 0, none⟩) 2 cap) [t, u]) : w.cell? ⟨g, 0, none⟩ = some (.string t.1) ∧ w.cell? ⟨g, 3, none⟩ = some (.int .i64 u.2) ∧ ∀ j, w.frozen? ⟨g, j, none⟩ = false := by
  obtain ⟨g1, c1, e1, _, h1⟩ := own_cell h.row (j := 0) (u := .string t.1) rfl
  obtain ⟨g2, c2, e2, _, h2⟩ := own_cell h.row (j := 3) (u := .int .i64 u.2) rfl
  cases e1
  cases e2
  exact ⟨h1, h2, (own_free h.row).2.2.2.1⟩
/-- Any point. -/
def AnyPt (B m : Nat) (w : World) (e : Ending) (w' : World) : Prop := ∃ v ts, e = .returned v ∧ PSt B m w w' v ts ∧ ts.length ≤ 2
set_option maxRecDepth 100000 in
set_option maxHeartbeats 4000000 in
theorem aPoint_any (B m : Nat) (low high : Int) (w : World) (hs : StreamAt w B m) (hm : m ≤ 1000000) (h1 : low ≤ high) (h2 : -1000 ≤ low) (h3 : high ≤ 1000) :
    Calls Tryz.prog 5 #[.pointer (some ⟨B, 0, none⟩), .int .i64 low, .int .i64 high] w (AnyPt B (m + 10) w) := by
  have hB := hs.lt
  obtain ⟨j0, hj0, hy0, hy1, hy2⟩ := info_parts Tryz.infoSlot
  have hg0 := World.grownBy_alloc w (.cells #[.string ⟨#[105]⟩, .string ⟨#[106]⟩] 9) none
  have HP0 : Hid (PSt B m w (w.alloc (.cells #[.string ⟨#[105]⟩, .string ⟨#[106]⟩] 9)) (.slice none 0 0) []) := ⟨⟨World.grownBy_alloc _ _ _, hs.kept hg0⟩, World.ownsRow_nil _ _ _ _, heap_alloc_new w _, fun t ht => by cases ht⟩
  clear hs hg0
  go_enter Tryz.func5, Tryz.ntmps5
  go_upto_region 3 with fail
  generalize w.alloc (.cells #[.string ⟨#[105]⟩, .string ⟨#[106]⟩] 9) = w1 at *
  go_loopw [7, 12] (fun o i wr => ∃ k : Nat, ∃ ts : List (ByteArray × Int), ts.length = k ∧ k ≤ 2 ∧ i = .int .i64 k ∧ Hid (PSt B (m + k) w wr o ts)) (fun _ i _ => 2 - (intOf i).toNat)
  case atStart => exact ⟨0, [], rfl, by omega, rfl, HP0.out⟩
  case round =>
    obtain ⟨k, ts, hl, hk, rfl, HP⟩ := hrel
    by_cases hlt : k < 2
    · have HLn := Lib.hid hl
      clear hl
      obtain ⟨n0, n1, nf⟩ := cell_of_two HP.out.names
      have hkI : (k : Int) < 2 := by omega
      obtain ⟨n, hn, hns⟩ : ∃ n : ByteArray, wr.cell? ⟨w.heap.size, k, none⟩ = some (.string n) ∧ n.size ≤ 100 := by
        rcases (show k = 0 ∨ k = 1 by omega) with rfl | rfl
        · exact ⟨_, n0, by decide⟩
        · exact ⟨_, n1, by decide⟩
      obtain ⟨po, co, ho⟩ := own_form HP.out.row
      subst ho
      clear n0 n1 nf
      go_wp2_with (first
        | (go_at_call 25; go_must (refine (range_any B (m + k) low high wr HP.out.drawn.2 (by omega) (by omega) (by omega) (by omega)).mono ?_; rintro e w2 ⟨z, hz0, hz1, rfl, hd⟩; have HP2 := Lib.hid (HP.out.draw hB hd); have HZ := Lib.hid (show small z by unfold small; omega); clear hd))
        | (at_builtin; go_must (refine wpList_append_lies _ rfl _ _ 31 rfl (w.heap.size + 1) 61 j0 (.agg #[.string ByteArray.empty, .int .i64 0]) 2 24 Tryz.underlying31 hj0 hy0 hy1 hy2 rfl (by decide) _ ts.length (ts.flatMap termCells) rfl (World.ownsRow.alloc HP2.out.row _) ⟨w2.heap.size, 0, none⟩ 1 1 (termCells (n, z)) rfl rfl news_at (by simp [termCells, Value.oneCell']) (by decide) (by have := HLn.out; unfold maxLen; omega) (by have := HLn.out; omega) (by have := (Array.getElem?_eq_some_iff.1 HP2.out.names).1; simp; omega) (w2.heap.size + 1) (by simp) ?_; intro g' ncap w3 hown hgrow hat _; have HP3 := Lib.hid ((HP2.out.grown (World.grownBy_alloc _ _ none)).push hB hgrow hown ⟨hns, HZ.out⟩); clear hown hgrow hat)))
      go_roundw
      case rel => exact ⟨k + 1, ts ++ [(n, z)], by simp [HLn.out], by omega, by go_num, by
        have h := HP3.out
        rw [show (ts ++ [(n, z)]).length = ts.length + 1 by simp] at h
        exact h⟩
      case measure => simp [intOf]; omega
    · obtain rfl : k = 2 := by omega
      match ts, hl with
      | [t, u], _ =>
      obtain ⟨pg, cap, hv⟩ := own_form HP.out.row
      subst hv
      obtain ⟨g, cg, hgv, _, hc0⟩ := own_cell HP.out.row (j := 0) (u := .string t.1) rfl
      obtain ⟨hpg, _, hcc⟩ := Value.slice.inj hgv
      subst hpg
      subst hcc
      obtain ⟨hcap, hcapm, _, hfr, _⟩ := own_free HP.out.row
      have hcapI : (2 : Int) ≤ (cap : Int) := by simp at hcap; omega
      have HPa := Lib.hid (show PSt B (m + 2) w wr (.slice (some ⟨g, 0, none⟩) 2 cap) [t, u] from HP.out)
      clear HP hc0 hfr hcap
      go_upto_region 8 with (go_at_call 22; go_must (refine (flip_any B (m + 2) 15 wr HPa.out.drawn.2 (by omega) (by omega) (by omega)).mono ?_; rintro e w5 ⟨b, rfl, hd⟩; have HP5 := Lib.hid (HPa.out.draw hB hd); clear hd; cases b))
      · go_wp2
        go_ret
        exact ⟨_, _, rfl, HP5.out.more (by omega), by simp⟩
      · go_upto_region 10 with (go_at_call 23; go_must (refine (next_any B (m + 2 + 1) 3 w5 HP5.out.drawn.2 (by omega) (by omega) (by omega)).mono ?_; rintro e w6 ⟨k, hk0, hk1, rfl, hd⟩; have HP6 := Lib.hid (HP5.out.draw hB hd); clear hd; rcases (show k = 0 ∨ k = 1 ∨ k = 2 by omega) with rfl | rfl | rfl))
        · go_wp2
          go_ret
          exact ⟨_, _, rfl, (HP6.out.cut).more (by omega), by simp⟩
        · go_wp2_with (go_at_call 7; go_must (refine (some_lit' B (m + 2 + 1 + 1) w6.heap.size [⟨#[]⟩, ⟨#[106]⟩, ⟨#[107]⟩, ⟨#[65]⟩] _ w6 rfl HP6.out.drawn.2 (by omega) (by simp) (by simp)).mono ?_; rintro e w7 ⟨z, hz, rfl, hd⟩; have HP7 := Lib.hid (HP6.out.draw hB hd); have HZs := Lib.hid (show z.size ≤ 100 by simp at hz; rcases hz with rfl | rfl | rfl | rfl <;> decide); obtain ⟨c0, c3, cf⟩ := HP7.out.two; clear hd hz))
          go_ret
          exact ⟨_, _, rfl, (HP7.out.setName hB z HZs.out).more (by omega), by simp⟩
        · go_wp2_with (go_at_call 6; go_must (refine (pick_lit' B (m + 2 + 1 + 1) w6.heap.size [-1000001, 1000000, 99] _ w6 rfl HP6.out.drawn.2 (by omega) (by simp) (by simp)).mono ?_; rintro e w7 ⟨z, hz, rfl, hd⟩; have HP7 := Lib.hid (HP6.out.draw hB hd); have HZ := Lib.hid (show small z by simp at hz; unfold small; omega); obtain ⟨c0, c3, cf⟩ := HP7.out.two; clear hd hz))
          go_ret
          exact ⟨_, _, rfl, (HP7.out.setVal hB z HZ.out).more (by omega), by simp⟩
end Go.Proofs.YtblpknkgjkbacaaGreatDoor
namespace Go.Proofs.YtblpknkgjkbacaaGreatDoor
open Go.RowKit
attribute [local go_sem ↓] Go.wp_at_zero Go.wp_at_succ
theorem neqTerm_run (x y : TermD) (W : World) : (binOp .neq 54 (.agg #[.string x.1, .int .i64 x.2]) (.agg #[.string y.1, .int .i64 y.2])).run Tryz.prog W = .ok (.bool (!(decide (x = y)))) W := by
  obtain ⟨a, b⟩ := x
  obtain ⟨d, e⟩ := y
  simp only
  rw [run_neq_struct, show (10000 : Nat) = 9999 + 1 from rfl, run_equalIn_agg W 9999 54 _ _ (by kernel_rfl) (by kernel_rfl)]
  by_cases h1 : a = d
  · subst h1
    by_cases h2 : b = e
    · subst h2
      simp [go_sem, Result.andThen]
    · simp [go_sem, Result.andThen, h2]
  · have h1' : (a.toList == d.toList) = false := by
      cases hh : (a.toList == d.toList)
      · rfl
      · exact absurd (bytes_ext (eq_of_beq hh)) h1
    simp [go_sem, Result.andThen, h1, h1']
/-- Equal lists. -/
def eqTermL (xs ys : List TermD) : Bool := decide (xs = ys)
set_option maxRecDepth 100000 in
set_option maxHeartbeats 4000000 in
theorem equalTerms_any (xs ys : List TermD) (xv yv : Value) (w : World) (hx : TermsAt w xv xs) (hy : TermsAt w yv ys) :
    Calls Tryz.prog 44 #[xv, yv] w (Gives (.bool (eqTermL xs ys)) w) := by
  obtain ⟨px, cx, rfl, hxl, hxc⟩ := id hx
  obtain ⟨py, cy, rfl, hyl, hyc⟩ := id hy
  have HX := Lib.hid hxc
  have HY := Lib.hid hyc
  clear hx hy hxc hyc
  by_cases hl : xs.length = ys.length
  · have HL := Lib.hid hl
    have hl0 : ((xs.length : Int) != (ys.length : Int)) = false := by simp [hl]
    clear hl
    go_enter Tryz.func44, Tryz.ntmps44
    go_wp2
    go_loopw [13] (fun i wr => ∃ k : Nat, k ≤ xs.length ∧ i = .int .i64 k ∧ Hid (xs.take k = ys.take k) ∧ Hid (w.grownBy wr none)) (fun i _ => xs.length - (intOf i).toNat)
    case atStart => exact ⟨0, Nat.zero_le _, rfl, by show _ = _; rfl, grownBy_refl _ _⟩
    case round =>
      obtain ⟨k, hk, rfl, HT, HG⟩ := hrel
      by_cases hlt : k < xs.length
      · have hlt2 : k < ys.length := by rw [← HL.out]; exact hlt
        have h0 := List.getElem?_eq_getElem hlt
        have h1 := List.getElem?_eq_getElem hlt2
        obtain ⟨bx, ox, rfl, q1, q2, q3, x1, x2⟩ := (HX.out k _ h0).kept HG.out
        obtain ⟨by_, oy, rfl, q4, q5, q6, y1, y2⟩ := (HY.out k _ h1).kept HG.out
        have HTx := Lib.hid (List.take_succ_eq_append_getElem hlt)
        have HTy := Lib.hid (List.take_succ_eq_append_getElem hlt2)
        have HNe : Hid (xs[k] ≠ ys[k] → xs ≠ ys) := fun h e => h (by subst e; rfl)
        generalize xs[k] = x at *
        generalize ys[k] = y at *
        have hmx : xs.length ≤ 9223372036854775807 := by have h := ‹xs.length ≤ maxLen›; unfold maxLen at h; omega
        have hI1 : (k : Int) < (xs.length : Int) := by omega
        have hI2 : (k : Int) < (ys.length : Int) := by omega
        clear h0 h1
        by_cases hxy : x = y
        · subst hxy
          have hneq : ∀ W, (binOp .neq 54 (.agg #[.string x.1, .int .i64 x.2]) (.agg #[.string x.1, .int .i64 x.2])).run Tryz.prog W = .ok (.bool false) W := fun W => by rw [neqTerm_run]; simp
          go_upto_region 6 with fail
          go_region_held3 (fun W => W.cell? ⟨bx, ox + k * 2, none⟩ = some (.string x.1) ∧ W.cell? ⟨bx, ox + k * 2 + 1, none⟩ = some (.int .i64 x.2) ∧ W.cell? ⟨by_, oy + k * 2, none⟩ = some (.string x.1) ∧ W.cell? ⟨by_, oy + k * 2 + 1, none⟩ = some (.int .i64 x.2)) (go_keep) (fail)
          all_goals
            go_wp2
            go_roundw
            case rel => exact ⟨k + 1, by omega, by go_num, by show _ = _; rw [HTx.out, HTy.out, HT.out], grownBy_trans HG.out (grown_drew _ none)⟩
            case measure => simp [intOf]; omega
        · have hneq : ∀ W, (binOp .neq 54 (.agg #[.string x.1, .int .i64 x.2]) (.agg #[.string y.1, .int .i64 y.2])).run Tryz.prog W = .ok (.bool true) W := fun W => by rw [neqTerm_run]; simp [hxy]
          have HF : Hid (eqTermL xs ys = false) := by unfold eqTermL; exact decide_eq_false (HNe.out hxy)
          go_upto_region 6 with fail
          go_region_held3 (fun W => W.cell? ⟨bx, ox + k * 2, none⟩ = some (.string x.1) ∧ W.cell? ⟨bx, ox + k * 2 + 1, none⟩ = some (.int .i64 x.2) ∧ W.cell? ⟨by_, oy + k * 2, none⟩ = some (.string y.1) ∧ W.cell? ⟨by_, oy + k * 2 + 1, none⟩ = some (.int .i64 y.2)) (go_keep) (fail)
          all_goals
            go_wp2
            go_ret
            exact ⟨ret_bool HF.out.symm, grownBy_trans HG.out (grown_drew _ none)⟩
      · obtain rfl : k = xs.length := by omega
        have HF : Hid (eqTermL xs ys = true) := by
          have h := HT.out
          rw [List.take_length, HL.out, List.take_length] at h
          unfold eqTermL
          exact decide_eq_true h
        go_wp2
        go_ret
        exact ⟨ret_bool HF.out.symm, HG.out⟩
  · have hl0 : ((xs.length : Int) != (ys.length : Int)) = true := by simp; omega
    have HF : Hid (eqTermL xs ys = false) := by unfold eqTermL; exact decide_eq_false (fun e => hl (by rw [e]))
    clear hl
    go_enter Tryz.func44, Tryz.ntmps44
    go_wp2
    go_ret
    exact ⟨ret_bool HF.out.symm, grownBy_refl _ _⟩
end Go.Proofs.YtblpknkgjkbacaaGreatDoor
namespace Go.Proofs.YtblpknkgjkbacaaGreatDoor
open Go.RowKit
attribute [local go_sem ↓] Go.wp_at_zero Go.wp_at_succ
def eqForm (f g : CondD) : Bool := decide (f = g)
set_option maxHeartbeats 1000000 in
theorem sameForm_any (f g : CondD) (tv uv : Value) (w : World) (ht : TermsAt w tv f.2) (hu : TermsAt w uv g.2) :
    Calls Tryz.prog 19 #[.agg #[.int .i64 f.1, tv], .agg #[.int .i64 g.1, uv]] w (Gives (.bool (eqForm f g)) w) := by
  obtain ⟨c, ts⟩ := f
  obtain ⟨d, us⟩ := g
  simp only at ht hu ⊢
  have HT := Lib.hid ht
  have HU := Lib.hid hu
  have HE : Hid (eqForm (c, ts) (d, us) = (decide (c = d) && eqTermL ts us)) := by
    show _ = _
    unfold eqForm eqTermL
    rw [Bool.eq_iff_iff]
    simp
  clear ht hu
  by_cases h : c = d
  · subst h
    have hcc : (c == c) = true := by simp
    have HE2 : Hid (eqForm (c, ts) (c, us) = eqTermL ts us) := by
      have h := HE.out
      simp only [decide_true, Bool.true_and] at h
      exact h
    go_enter Tryz.func19, Tryz.ntmps19
    go_wp2_with (go_at_call 44; go_must (refine (equalTerms_any ts us _ _ _ (HT.out.kept (grownBy_trans (World.grownBy_alloc _ _ _) (World.grownBy_alloc _ _ _))) (HU.out.kept (grownBy_trans (World.grownBy_alloc _ _ _) (World.grownBy_alloc _ _ _)))).mono ?_; rintro e w' ⟨rfl, hg1⟩; have G1 := Lib.hid (grownBy_trans (World.grownBy_alloc _ _ _) (grownBy_trans (World.grownBy_alloc _ _ _) hg1)); clear hg1))
    go_ret
    exact ⟨ret_bool HE2.out.symm, G1.out⟩
  · have hcc : (c == d) = false := by simp [h]
    have HE2 : Hid (eqForm (c, ts) (d, us) = false) := by
      have h2 := HE.out
      rw [decide_eq_false h, Bool.false_and] at h2
      exact h2
    clear h
    go_enter Tryz.func19, Tryz.ntmps19
    go_wp2
    go_ret
    exact ⟨ret_bool HE2.out.symm, grownBy_trans (World.grownBy_alloc _ _ _) (World.grownBy_alloc _ _ _)⟩
end Go.Proofs.YtblpknkgjkbacaaGreatDoor
