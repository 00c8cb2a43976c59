/-
 slices.SortFunc at terms, by their names; the form of a stream's draws.
 wbmake.form: a form of a number and of terms.
 slices.Reverse at terms.
-/
import Derived.Test.YtfilcaolgfghcaaGreatTermDel
import Derived.Test.YtfilcaolgfghcaaGreatSortRow
import Derived.Shelf.SlSortCmp.NoneTotal
import Derived.Shelf.Small.Strs
import Derived.Shelf.SlGeneric
import Derived.Ground.SlsfProg
import Derived.Ground.NamesProg
import Derived.Test.YtfilcaolgfghcaaGreatLay
import Derived.Test.YtfilcaolgfghcaaGreatSpace
import Derived.Shelf.SlicesQ.Reverse
import Derived.Ground.SlgnProg
namespace Go.Proofs.YtfilcaolgfghcaaGreat
open Go.RowKit Go.Sort

def cmpT (x y : TermD) : Int := Lib.compareBytes x.1.data.toList y.1.data.toList

theorem cmpT_swo : SWO (ltOf cmpT) where
  irrefl x := by simp [ltOf, cmpT, cmpB_lex, cmpL_self]
  trans x y z h k := by
    simp only [ltOf, cmpT, cmpB_lex, decide_eq_true_eq] at *
    exact cmpL_trans _ _ _ h k
  ntrans x y z h k := by
    simp only [ltOf, cmpT, cmpB_lex, decide_eq_false_iff_not] at *
    exact cmpL_le_trans k h

set_option maxHeartbeats 1000000 in
theorem form2_any (x y : TermD) (W : World) : Calls Tryz.prog 67 #[.agg #[.string x.1, .int .i64 x.2], .agg #[.string y.1, .int .i64 y.2]] W fun e w' => e = .returned (.int .i64 (cmpT x y)) ∧ ∃ q os', w' = grow (W.drewN q) os' := by
  have hcon := fun W' => Any.strings_Compare Tryz.strCmp x.1 y.1 W'
  change ∀ W', Calls Tryz.prog 68 _ _ _ at hcon
  have e0 : Lib.compareBytes x.1.data.toList y.1.data.toList = cmpT x y := rfl
  rw [e0] at hcon
  generalize cmpT x y = r at hcon ⊢
  clear e0
  go_enter Tryz.func67, Tryz.ntmps67
  go_wp2_with (go_at_call 68; refine (hcon _).mono ?_; rintro e w' ⟨rfl, rfl⟩)
  go_ret
  exact ⟨rfl, 0, _, by rw [alloc_eq_grow, alloc_eq_grow, grow_grow]; rfl⟩

def SortedTerms (P g n cap : Nat) (ts : List TermD) (w : World) (e : Ending) (w' : World) : Prop :=
  e = .returned (.tuple #[]) ∧ ∃ us, us.length = ts.length ∧ (∀ t ∈ us, t ∈ ts) ∧ TermRow w' P (.slice (some ⟨g, 0, none⟩) n cap) us ∧ w.grownBy w' (some g)

theorem sortTerm_any (P g n cap : Nat) (ts : List TermD) (w : World) (hl : ts.length ≤ 1000) (h : TermRow w P (.slice (some ⟨g, 0, none⟩) n cap) ts) :
    Calls Tryz.prog 66 #[.slice (some ⟨g, 0, none⟩) n cap, .func (.func 67) #[] #[]] w (SortedTerms P g n cap ts w) := by
  obtain ⟨p, c, hv⟩ := own_form h
  cases hv
  have eg : ∀ args w, (callFunc 67 args).run Tryz.prog w = .ok (.enter 67 args) w := enters_of Tryz.func67 (by kernel_rfl) rfl
  have hd : ts.toArray.toList.flatMap termCells = ts.flatMap termCells := by simp
  have hH : HoldsK termCells 2 w g 0 ts.toArray := sorted_holds (enc := termCells) (k := 2) (d := ts.toArray) (n := ts.length) (cap := cap) (P := P) (e := 66) (fun _ => rfl) (by rw [hd]; exact h)
  obtain ⟨_, _, _, _, cur, hb, _⟩ := own_free h
  have hcon := AnyQ.slices_SortFunc Tryz.sortTerms 2 Tryz.isAgg66 Tryz.sizeOf66 termCells (fun _ => rfl) (fun x v hv => by simp [termCells] at hv; rcases hv with rfl | rfl <;> rfl) cmpT cmpT_swo 67 #[] g 0 cap ts.toArray w eg (fun _ _ _ _ x y => form2_any x y _) hH (Array.getElem?_eq_some_iff.1 hb).1 (by simp; omega)
  change Calls Tryz.prog 66 _ _ _ at hcon
  refine hcon.mono ?_
  rintro e w' ⟨rfl, d, m, os, ⟨p1, _, p2⟩, _, rfl⟩
  have hs : d.size = ts.length := by rw [p1]; simp
  have ex : d.extract 0 ts.toArray.size = d := by rw [← p1]; simp
  rw [ex] at p2
  have p3 : d.toList.Perm ts := by simpa using p2
  obtain ⟨s1, s2⟩ := sorted_own id h m (flatK termCells 2 d) os (by simp [hs])
  rw [flatK_list termCells 2 (fun _ => rfl), List.map_id] at s1
  exact ⟨rfl, d.toList, by simpa using hs, fun t ht => p3.mem_iff.1 ht, by unfold TermRow; rw [show d.toList.length = ts.length by simpa using hs]; exact s1, s2⟩

end Go.Proofs.YtfilcaolgfghcaaGreat

namespace Go.Proofs.YtfilcaolgfghcaaGreat
open Go.RowKit
attribute [local go_sem ↓] Go.wp_at_zero Go.wp_at_succ

theorem Tryz.infoFormD : (Tryz.prog.info? 33).map (·.size) = some 2 := by kernel_rfl

theorem two_stored {w : World} {R : Nat} {x y : Value} {T : TypeId} (hr : w.heap[R]? = some (.cells #[x, y] T (0, 0))) (a b : Value) :
    ((w.setCell ⟨R, 0, none⟩ a).setCell ⟨R, 1, none⟩ b).heap[R]? = some (.cells #[a, b] T (0, 0)) ∧ w.grownBy ((w.setCell ⟨R, 0, none⟩ a).setCell ⟨R, 1, none⟩ b) (some R) :=
  ⟨by simp [World.setCell, Array.getElem?_modify, hr], grownBy_trans (grown_set _ _ _ _) (grown_set _ _ _ _)⟩

/-- A form by value, in memory of the call's own. -/
def FormOf (c : Int) (ts : List TermD) (w : World) (e : Ending) (w' : World) : Prop :=
  ∃ n cap us g, e = .returned (.agg #[.int .i64 c, .slice (some ⟨g, 0, none⟩) n cap]) ∧ us.length = n ∧ n ≤ ts.length ∧ TermRow w' w.heap.size (.slice (some ⟨g, 0, none⟩) n cap) us ∧ (∀ t ∈ us, t ∈ ts) ∧ w.grownBy w' none

theorem TermRow.other {w w' : World} {P : Nat} {v : Value} {ts : List TermD} {R : Nat} (h : TermRow w P v ts) (hg : w.grownBy w' (some R)) (hR : R < P) : TermRow w' P v ts := World.ownsRow.kept h hg (own_ne h hR)

set_option maxRecDepth 100000 in
set_option maxHeartbeats 2000000 in
theorem form_any (c : Int) (b off cap : Nat) (ts : List TermD) (w : World) (h1 : 0 < ts.length) (hl : ts.length ≤ 1000) (hc : ∀ j u, (ts.flatMap termCells)[j]? = some u → w.cell? ⟨b, off + j, none⟩ = some u) :
    Calls Tryz.prog 27 #[.int .i64 c, .slice (some ⟨b, off, none⟩) ts.length cap] w (FormOf c ts w) := by
  have HC := Lib.hid (fun W (hg : w.grownBy W none) => cloneTerm_any b off cap ts W hl (fun j u hj => hg.cell (hc j u hj) (by simp)))
  clear hc
  go_enter Tryz.func27, Tryz.ntmps27
  go_wp2_with (first
    | (go_at_call 64; go_must (refine (HC.out _ (World.grownBy_alloc w (.cells #[.int .i64 0, .slice none 0 0] 33) none)).mono ?_; rintro e w1 ⟨v, rfl, ho, hg⟩; obtain ⟨g, cap1, rfl, _, _⟩ := World.ownsRow.form ho h1; have HO := Lib.hid ho; have HG := Lib.hid hg; have HB := Lib.hid (heap_keep (heap_alloc_new w (.cells #[.int .i64 0, .slice none 0 0] 33)) hg (by simp)); clear ho hg))
    | (go_at_call 63; go_must (refine (deleteTerm_any _ g _ cap1 ts w1 hl HO.out).mono ?_; rintro e w2 ⟨n, cap2, us, g2, rfl, hn, hle, hob, ho2, hm2, hg2⟩; cases hob; have HN := Lib.hid hn; have HO2 := Lib.hid ho2; have HM2 := Lib.hid hm2; have HG2 := Lib.hid hg2; clear hn ho2 hm2 hg2))
    | (go_at_call 66; go_must (refine (sortTerm_any _ g n cap2 us w2 (by rw [HN.out]; omega) HO2.out).mono ?_; rintro e w3 ⟨rfl, us3, hl3, hm3, ho3, hg3⟩; have HL3 := Lib.hid hl3; have HM3 := Lib.hid hm3; have HO3 := Lib.hid ho3; have hgb := ho3.free.2.2.2.1; have HB3 := Lib.hid (heap_keep (heap_keep HB.out HG2.out (by simp at hgb ⊢; omega)) hg3 (by simp at hgb ⊢; omega)); have HG3 := Lib.hid hg3; have r0 : w3.cell? ⟨w.heap.size, 0, none⟩ = some (.int .i64 0) := (by simp [World.cell?, HB3.out]); have r1 : w3.cell? ⟨w.heap.size, 1, none⟩ = some (.slice none 0 0) := (by simp [World.cell?, HB3.out]); have rf : ∀ k, w3.frozen? ⟨w.heap.size, k, none⟩ = false := (fun k => by simp [World.frozen?, HB3.out]); clear hl3 hm3 ho3 hg3)))
  obtain ⟨q1, q2⟩ := two_stored HB3.out (.int .i64 c) (.slice (some ⟨g, 0, none⟩) n cap2)
  refine bodyPost_ret (results_cell_row rfl _ _ w.heap.size _ _ _ _ rfl q1 Tryz.underlying33 rfl Tryz.infoFormD) rfl ⟨n, cap2, us3, g, rfl, HL3.out.trans HN.out, hle, ?_, fun t ht => HM2.out t (HM3.out t ht), ?_⟩
  · exact owns_lower (HO3.out.other q2 (by simp)) (by simp)
  · refine grown_own (grown_own (grown_own (grownBy_trans (World.grownBy_alloc _ _ _) HG.out) HG2.out (fun k hk => by cases hk; simp at hgb; omega)) HG3.out (fun k hk => by cases hk; simp at hgb; omega)) q2 (fun k hk => by cases hk; exact Nat.le_refl _)

end Go.Proofs.YtfilcaolgfghcaaGreat

namespace Go.Proofs.YtfilcaolgfghcaaGreat
open Go.RowKit Go.Sort

theorem grow_none (w : World) : grow w #[] = w := by
  show { w with heap := w.heap ++ #[] } = w
  rw [Array.append_empty]

theorem reverseTerm_any (P g n cap : Nat) (ts : List TermD) (w : World) (hl : ts.length ≤ 1000) (h : TermRow w P (.slice (some ⟨g, 0, none⟩) n cap) ts) :
    Calls Tryz.prog 28 #[.slice (some ⟨g, 0, none⟩) n cap] w (SortedTerms P g n cap ts w) := by
  obtain ⟨p, c, hv⟩ := own_form h
  cases hv
  have hd : ts.toArray.toList.flatMap termCells = ts.flatMap termCells := by simp
  have hH : HoldsK termCells 2 w g 0 ts.toArray := sorted_holds (enc := termCells) (k := 2) (d := ts.toArray) (n := ts.length) (cap := cap) (P := P) (e := 66) (fun _ => rfl) (by rw [hd]; exact h)
  have hcon := AnyQ.slices_Reverse Tryz.reverseTerms 2 Tryz.isAgg66 Tryz.sizeOf66 termCells (fun _ => rfl) (fun x v hv => by simp [termCells] at hv; rcases hv with rfl | rfl <;> rfl) g 0 cap ts.toArray w hH (by simp; omega)
  change Calls Tryz.prog 28 _ _ _ at hcon
  refine hcon.mono ?_
  rintro e w' ⟨rfl, m, rfl⟩
  have s := sorted_own id h m (flatK termCells 2 ts.toArray.reverse) #[] (by simp)
  rw [flatK_list termCells 2 (fun _ => rfl), List.map_id, grow_none] at s
  refine ⟨rfl, ts.reverse, by simp, fun t ht => List.mem_reverse.1 ht, ?_, s.2⟩
  unfold TermRow
  rw [List.length_reverse]
  have e : ts.toArray.reverse.toList = ts.reverse := by simp
  rw [← e]
  exact s.1

end Go.Proofs.YtfilcaolgfghcaaGreat
