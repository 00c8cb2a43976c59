/-
 What a sort of a row of the call's own leaves. The library's contracts at this program. slices.SortFunc at terms, by their names; the form of a stream's draws. wbmake.form: a form of a number and of terms. slices.Reverse at terms. The state of each's recursion. each's recursion: where a condition is not met; its step. each's conditions, by how many variables they hang on. A row as a form. A space as a set. Grow of nothing, and Concat, at numbers. A row divided. A row without one of its variables. Grow of nothing, and Concat, at rows. Grow of nothing, and Concat, at sides. Rows with what room they have; rows that a call collects. A space of a set: its rows have room. A space of a set, and the place of a variable of it.
-/
import Derived.Shelf.GgSortFunc.RowK
import Derived.Lib.Bytealg
import Derived.Shelf.SlGeneric
import Derived.Shelf.SlSortCmp.NoneTotal
import Derived.Shelf.Small.Strs
import Derived.Shelf.SlicesQ.Reverse
import Derived.Shelf.SlIter.Nil
import Derived.Shelf.SortM.Plain
import Derived.Shelf.SortM.SortNone
import Derived.Ground.SlsfProg
import Derived.Ground.NamesProg
import Derived.Ground.SlgnProg
import Derived.Ground.GgzProg
import Derived.Ground.SlgmProg
import Derived.Deep.RegionLaw
import Derived.Deep.DeepMust
import Derived.IntWalk
import Derived.Deep.AppendLies
import Derived.WalkSpells
import Derived.Lib.AppendZerosOnto
import Derived.Laws.OwnMore
import Derived.Test.YtblpknkgjkbacaaGreatDoorQ05
import Derived.Test.YtblpknkgjkbacaaGreatDoorQ06
import Derived.Test.YtblpknkgjkbacaaGreatDoorQ07
import Derived.Test.YtblpknkgjkbacaaGreatDoorQ08
import Derived.Test.YtblpknkgjkbacaaGreatDoorQ09
namespace Go.Proofs.YtblpknkgjkbacaaGreatDoor
set_option linter.unusedVariables false
open Go.RowKit Go.Sort
theorem put_row {β : Type} [Inhabited β] (enc : β → Value) (w : World) (g m : Nat) (F : Array β) (os : Array Obj) (cur : Array Value) (T : TypeId) (hg : w.heap[g]? = some (.cells cur T (0, 0))) (hs : F.size ≤ cur.size) :
    (grow (putRow enc (Go.Sort.ahead w m) g 0 F) os).heap[g]? = some (.cells (putCells enc 0 F cur) T (0, 0)) ∧ (putCells enc 0 F cur).size = cur.size ∧ (putCells enc 0 F cur).toList.take F.size = F.toList.map enc ∧ w.grownBy (grow (putRow enc (Go.Sort.ahead w m) g 0 F) os) (some g) := by
  have hlt : g < w.heap.size := (Array.getElem?_eq_some_iff.1 hg).1
  have hh : ∀ k, k < w.heap.size → (grow (putRow enc (Go.Sort.ahead w m) g 0 F) os).heap[k]? = (w.heap.modify g (onCells (putCells enc 0 F)))[k]? := fun k hk => by
    show ((w.heap.modify g (onCells (putCells enc 0 F))) ++ os)[k]? = _
    rw [Array.getElem?_append_left (by simpa using hk)]
  refine ⟨?_, by simp [putCells], ?_, rfl, rfl, rfl, ?_, fun k hk hne => ?_⟩
  · rw [hh g hlt, Array.getElem?_modify, if_pos rfl, hg]
    rfl
  · refine List.ext_getElem (by simp [putCells]; omega) fun i h1 h2 => ?_
    have hi : i < F.size := by simpa using h2
    simp [putCells, hi]
  · show w.heap.size ≤ ((w.heap.modify g (onCells (putCells enc 0 F))) ++ os).size
    simp
  · rw [hh k hk, Array.getElem?_modify, if_neg (fun e => hne (by rw [e]))]
theorem flatK_list {α : Type} [Inhabited α] (enc : α → List Value) (k : Nat) (hk : ∀ a, (enc a).length = k) (d : Array α) : (flatK enc k d).toList = d.toList.flatMap enc := by
  have hl : (d.toList.flatMap enc).length = d.size * k := by rw [flat_length hk]; simp
  refine List.ext_getElem (by rw [hl]; simp) fun t h1 h2 => ?_
  have ht : t < d.size * k := by rw [← hl]; exact h2
  have k0 : 0 < k := by
    rcases Nat.eq_zero_or_pos k with h | h
    · rw [h] at ht; simp at ht
    · exact h
  have hq : t / k < d.size := Nat.div_lt_of_lt_mul (by rw [Nat.mul_comm]; exact ht)
  have hr : t % k < (enc d[t / k]!).length := by rw [hk]; exact Nat.mod_lt _ k0
  have e1 : (flatK enc k d)[t]! = (enc d[t / k]!)[t % k]! := get_flatK enc k d t ht
  have e2 := flat_get hk (l := d.toList) (j := t / k) (i := t % k) (a := d[t / k]!) (v := (enc d[t / k]!)[t % k]!) (by simp [hq]) (by rw [List.getElem?_eq_getElem hr]; exact congrArg some (getElem!_pos (enc d[t / k]!) _ hr).symm)
  rw [show t / k * k + t % k = t by rw [Nat.mul_comm]; exact Nat.div_add_mod t k] at e2
  rw [List.getElem?_eq_getElem h2] at e2
  have e3 : (flatK enc k d)[t]! = (flatK enc k d).toList[t] := by
    rw [getElem!_pos _ t (by simpa using h1)]
    simp
  rw [← e3, e1]
  exact (Option.some.inj e2).symm
/-- A row of the call's own, sorted. -/
theorem sorted_own {β : Type} [Inhabited β] (enc : β → Value) {w : World} {P : Nat} {e : TypeId} {size n cap g : Nat} {xs : List Value} (h : w.ownsRow P e size (.slice (some ⟨g, 0, none⟩) n cap) n xs) (m : Nat) (F : Array β) (os : Array Obj) (hF : F.size = n * size) :
    (grow (putRow enc (Go.Sort.ahead w m) g 0 F) os).ownsRow P e size (.slice (some ⟨g, 0, none⟩) n cap) n (F.toList.map enc) ∧ w.grownBy (grow (putRow enc (Go.Sort.ahead w m) g 0 F) os) (some g) := by
  obtain ⟨h1, h2⟩ := h
  rcases h2 with ⟨hv, _⟩ | ⟨g', cap', cur, hv, hb, hg, hn, hc, hs, ht⟩
  · cases hv
  · obtain ⟨hgg, _, rfl⟩ := Value.slice.inj hv
    simp only [Option.some.injEq, Addr.mk.injEq, and_true] at hgg
    subst hgg
    have hle : n * size ≤ cap * size := Nat.mul_le_mul_right _ hn
    obtain ⟨p1, p2, p3, p4⟩ := put_row enc w g m F os cur e hg (by omega)
    exact ⟨⟨by simp [hF], .inr ⟨g, cap, _, rfl, hb, p1, hn, hc, by rw [p2, hs], by rw [← hF]; exact p3⟩⟩, p4⟩
theorem sorted_holds {α : Type} [Inhabited α] {enc : α → List Value} {k : Nat} (hk : ∀ a, (enc a).length = k) {w : World} {P : Nat} {e : TypeId} {n cap g : Nat} {d : Array α} (h : w.ownsRow P e k (.slice (some ⟨g, 0, none⟩) n cap) n (d.toList.flatMap enc)) : HoldsK enc k w g 0 d := by
  rw [← flatK_list enc k hk] at h
  have hfz : ∀ j, w.frozen? ⟨g, j, none⟩ = false := by
    rcases h.2 with ⟨hv, _⟩ | ⟨g', cap', cur, hv, hb, hg, _⟩
    · cases hv
    · obtain ⟨hgg, _, _⟩ := Value.slice.inj hv
      simp only [Option.some.injEq, Addr.mk.injEq, and_true] at hgg
      subst hgg
      intro j
      simp [World.frozen?, hg]
  intro j hj
  obtain ⟨g', c', hv, _, hcell⟩ := own_cell h (j := j) (u := (flatK enc k d)[j]!) (by rw [getElem!_pos _ j hj]; simp)
  obtain ⟨hgg, _, _⟩ := Value.slice.inj hv
  simp only [Option.some.injEq, Addr.mk.injEq, and_true] at hgg
  subst hgg
  exact ⟨by simpa using hcell, hfz _⟩
/-- Strings, in their order. -/
theorem cmpB_lex (a b : List UInt8) : Lib.compareBytes a b = cmpL (a.map fun x => (x.toNat : Int)) (b.map fun x => (x.toNat : Int)) := by
  induction a generalizing b with
  | nil => cases b <;> rfl
  | cons x r ih =>
    cases b with
    | nil => rfl
    | cons y s =>
      simp only [Lib.compareBytes, List.map_cons, cmpL, ih]
      simp only [UInt8.lt_iff_toNat_lt, Int.ofNat_lt]
end Go.Proofs.YtblpknkgjkbacaaGreatDoor

namespace Go.Proofs.YtblpknkgjkbacaaGreatDoor
open Go.RowKit Go.Sort
def cmpT (x y : TermD) : Int := Lib.compareBytes x.1.data.toList y.1.data.toList
theorem cmpT_swo : SWO (ltOf cmpT) where
  irrefl x := by simp [ltOf, cmpT, cmpB_lex, cmpL_self]
  trans x y z h k := by
    simp only [ltOf, cmpT, cmpB_lex, decide_eq_true_eq] at *
    exact cmpL_trans _ _ _ h k
  ntrans x y z h k := by
    simp only [ltOf, cmpT, cmpB_lex, decide_eq_false_iff_not] at *
    exact cmpL_le_trans k h
set_option maxHeartbeats 1000000 in
theorem form2_any (x y : TermD) (W : World) : Calls Tryz.prog 50 #[.agg #[.string x.1, .int .i64 x.2], .agg #[.string y.1, .int .i64 y.2]] W fun e w' => e = .returned (.int .i64 (cmpT x y)) ∧ ∃ q os', w' = grow (W.drewN q) os' := by
  have hcon := fun W' => Any.strings_Compare Tryz.strCmp x.1 y.1 W'
  change ∀ W', Calls Tryz.prog 51 _ _ _ at hcon
  have e0 : Lib.compareBytes x.1.data.toList y.1.data.toList = cmpT x y := rfl
  rw [e0] at hcon
  generalize cmpT x y = r at hcon ⊢
  clear e0
  go_enter Tryz.func50, Tryz.ntmps50
  go_wp2_with (go_at_call 51; refine (hcon _).mono ?_; rintro e w' ⟨rfl, rfl⟩)
  go_ret
  exact ⟨rfl, 0, _, by rw [alloc_eq_grow, alloc_eq_grow, grow_grow]; rfl⟩
def SortedTerms (P g n cap : Nat) (ts : List TermD) (w : World) (e : Ending) (w' : World) : Prop :=
  e = .returned (.tuple #[]) ∧ ∃ us, us.length = ts.length ∧ (∀ t ∈ us, t ∈ ts) ∧ TermRow w' P (.slice (some ⟨g, 0, none⟩) n cap) us ∧ w.grownBy w' (some g)
theorem sortTerm_any (P g n cap : Nat) (ts : List TermD) (w : World) (hl : ts.length ≤ 1000) (h : TermRow w P (.slice (some ⟨g, 0, none⟩) n cap) ts) :
    Calls Tryz.prog 49 #[.slice (some ⟨g, 0, none⟩) n cap, .func (.func 50) #[] #[]] w (SortedTerms P g n cap ts w) := by
  obtain ⟨p, c, hv⟩ := own_form h
  cases hv
  have eg : ∀ args w, (callFunc 50 args).run Tryz.prog w = .ok (.enter 50 args) w := enters_of Tryz.func50 (by kernel_rfl) rfl
  have hd : ts.toArray.toList.flatMap termCells = ts.flatMap termCells := by simp
  have hH : HoldsK termCells 2 w g 0 ts.toArray := sorted_holds (enc := termCells) (k := 2) (d := ts.toArray) (n := ts.length) (cap := cap) (P := P) (e := 54) (fun _ => rfl) (by rw [hd]; exact h)
  obtain ⟨_, _, _, _, cur, hb, _⟩ := own_free h
  have hcon := AnyQ.slices_SortFunc Tryz.sortTerms 2 Tryz.isAgg54 Tryz.sizeOf54 termCells (fun _ => rfl) (fun x v hv => by simp [termCells] at hv; rcases hv with rfl | rfl <;> rfl) cmpT cmpT_swo 50 #[] g 0 cap ts.toArray w eg (fun _ _ _ _ x y => form2_any x y _) hH (Array.getElem?_eq_some_iff.1 hb).1 (by simp; omega)
  change Calls Tryz.prog 49 _ _ _ at hcon
  refine hcon.mono ?_
  rintro e w' ⟨rfl, d, m, os, ⟨p1, _, p2⟩, _, rfl⟩
  have hs : d.size = ts.length := by rw [p1]; simp
  have ex : d.extract 0 ts.toArray.size = d := by rw [← p1]; simp
  rw [ex] at p2
  have p3 : d.toList.Perm ts := by simpa using p2
  obtain ⟨s1, s2⟩ := sorted_own id h m (flatK termCells 2 d) os (by simp [hs])
  rw [flatK_list termCells 2 (fun _ => rfl), List.map_id] at s1
  exact ⟨rfl, d.toList, by simpa using hs, fun t ht => p3.mem_iff.1 ht, by unfold TermRow; rw [show d.toList.length = ts.length by simpa using hs]; exact s1, s2⟩
end Go.Proofs.YtblpknkgjkbacaaGreatDoor
namespace Go.Proofs.YtblpknkgjkbacaaGreatDoor
open Go.RowKit
attribute [local go_sem ↓] Go.wp_at_zero Go.wp_at_succ
theorem Tryz.infoFormD : (Tryz.prog.info? 28).map (·.size) = some 2 := by kernel_rfl
theorem two_stored {w : World} {R : Nat} {x y : Value} {T : TypeId} (hr : w.heap[R]? = some (.cells #[x, y] T (0, 0))) (a b : Value) :
    ((w.setCell ⟨R, 0, none⟩ a).setCell ⟨R, 1, none⟩ b).heap[R]? = some (.cells #[a, b] T (0, 0)) ∧ w.grownBy ((w.setCell ⟨R, 0, none⟩ a).setCell ⟨R, 1, none⟩ b) (some R) :=
  ⟨by simp [World.setCell, Array.getElem?_modify, hr], grownBy_trans (grown_set _ _ _ _) (grown_set _ _ _ _)⟩
/-- A form by value, in memory of the call's own. -/
def FormOf (c : Int) (ts : List TermD) (w : World) (e : Ending) (w' : World) : Prop :=
  ∃ n cap us g, e = .returned (.agg #[.int .i64 c, .slice (some ⟨g, 0, none⟩) n cap]) ∧ us.length = n ∧ n ≤ ts.length ∧ TermRow w' w.heap.size (.slice (some ⟨g, 0, none⟩) n cap) us ∧ (∀ t ∈ us, t ∈ ts) ∧ w.grownBy w' none
theorem TermRow.other {w w' : World} {P : Nat} {v : Value} {ts : List TermD} {R : Nat} (h : TermRow w P v ts) (hg : w.grownBy w' (some R)) (hR : R < P) : TermRow w' P v ts := World.ownsRow.kept h hg (own_ne h hR)
set_option maxRecDepth 100000 in
set_option maxHeartbeats 2000000 in
theorem form_any (c : Int) (b off cap : Nat) (ts : List TermD) (w : World) (h1 : 0 < ts.length) (hl : ts.length ≤ 1000) (hc : ∀ j u, (ts.flatMap termCells)[j]? = some u → w.cell? ⟨b, off + j, none⟩ = some u) :
    Calls Tryz.prog 21 #[.int .i64 c, .slice (some ⟨b, off, none⟩) ts.length cap] w (FormOf c ts w) := by
  have HC := Lib.hid (fun W (hg : w.grownBy W none) => cloneTerm_any b off cap ts W hl (fun j u hj => hg.cell (hc j u hj) (by simp)))
  clear hc
  go_enter Tryz.func21, Tryz.ntmps21
  go_wp2_with (first
    | (go_at_call 47; go_must (refine (HC.out _ (World.grownBy_alloc w (.cells #[.int .i64 0, .slice none 0 0] 28) none)).mono ?_; rintro e w1 ⟨v, rfl, ho, hg⟩; obtain ⟨g, cap1, rfl, _, _⟩ := World.ownsRow.form ho h1; have HO := Lib.hid ho; have HG := Lib.hid hg; have HB := Lib.hid (heap_keep (heap_alloc_new w (.cells #[.int .i64 0, .slice none 0 0] 28)) hg (by simp)); clear ho hg))
    | (go_at_call 46; go_must (refine (deleteTerm_any _ g _ cap1 ts w1 hl HO.out).mono ?_; rintro e w2 ⟨n, cap2, us, g2, rfl, hn, hle, hob, ho2, hm2, hg2⟩; cases hob; have HN := Lib.hid hn; have HO2 := Lib.hid ho2; have HM2 := Lib.hid hm2; have HG2 := Lib.hid hg2; clear hn ho2 hm2 hg2))
    | (go_at_call 49; go_must (refine (sortTerm_any _ g n cap2 us w2 (by rw [HN.out]; omega) HO2.out).mono ?_; rintro e w3 ⟨rfl, us3, hl3, hm3, ho3, hg3⟩; have HL3 := Lib.hid hl3; have HM3 := Lib.hid hm3; have HO3 := Lib.hid ho3; have hgb := ho3.free.2.2.2.1; have HB3 := Lib.hid (heap_keep (heap_keep HB.out HG2.out (by simp at hgb ⊢; omega)) hg3 (by simp at hgb ⊢; omega)); have HG3 := Lib.hid hg3; have r0 : w3.cell? ⟨w.heap.size, 0, none⟩ = some (.int .i64 0) := (by simp [World.cell?, HB3.out]); have r1 : w3.cell? ⟨w.heap.size, 1, none⟩ = some (.slice none 0 0) := (by simp [World.cell?, HB3.out]); have rf : ∀ k, w3.frozen? ⟨w.heap.size, k, none⟩ = false := (fun k => by simp [World.frozen?, HB3.out]); clear hl3 hm3 ho3 hg3)))
  obtain ⟨q1, q2⟩ := two_stored HB3.out (.int .i64 c) (.slice (some ⟨g, 0, none⟩) n cap2)
  refine bodyPost_ret (results_cell_row rfl _ _ w.heap.size _ _ _ _ rfl q1 Tryz.underlying28 rfl Tryz.infoFormD) rfl ⟨n, cap2, us3, g, rfl, HL3.out.trans HN.out, hle, ?_, fun t ht => HM2.out t (HM3.out t ht), ?_⟩
  · exact owns_lower (HO3.out.other q2 (by simp)) (by simp)
  · refine grown_own (grown_own (grown_own (grownBy_trans (World.grownBy_alloc _ _ _) HG.out) HG2.out (fun k hk => by cases hk; simp at hgb; omega)) HG3.out (fun k hk => by cases hk; simp at hgb; omega)) q2 (fun k hk => by cases hk; exact Nat.le_refl _)
end Go.Proofs.YtblpknkgjkbacaaGreatDoor
namespace Go.Proofs.YtblpknkgjkbacaaGreatDoor
open Go.RowKit Go.Sort
theorem grow_none (w : World) : grow w #[] = w := by
  show { w with heap := w.heap ++ #[] } = w
  rw [Array.append_empty]
theorem reverseTerm_any (P g n cap : Nat) (ts : List TermD) (w : World) (hl : ts.length ≤ 1000) (h : TermRow w P (.slice (some ⟨g, 0, none⟩) n cap) ts) :
    Calls Tryz.prog 24 #[.slice (some ⟨g, 0, none⟩) n cap] w (SortedTerms P g n cap ts w) := by
  obtain ⟨p, c, hv⟩ := own_form h
  cases hv
  have hd : ts.toArray.toList.flatMap termCells = ts.flatMap termCells := by simp
  have hH : HoldsK termCells 2 w g 0 ts.toArray := sorted_holds (enc := termCells) (k := 2) (d := ts.toArray) (n := ts.length) (cap := cap) (P := P) (e := 54) (fun _ => rfl) (by rw [hd]; exact h)
  have hcon := AnyQ.slices_Reverse Tryz.reverseTerms 2 Tryz.isAgg54 Tryz.sizeOf54 termCells (fun _ => rfl) (fun x v hv => by simp [termCells] at hv; rcases hv with rfl | rfl <;> rfl) g 0 cap ts.toArray w hH (by simp; omega)
  change Calls Tryz.prog 24 _ _ _ at hcon
  refine hcon.mono ?_
  rintro e w' ⟨rfl, m, rfl⟩
  have s := sorted_own id h m (flatK termCells 2 ts.toArray.reverse) #[] (by simp)
  rw [flatK_list termCells 2 (fun _ => rfl), List.map_id, grow_none] at s
  refine ⟨rfl, ts.reverse, by simp, fun t ht => List.mem_reverse.1 ht, ?_, s.2⟩
  unfold TermRow
  rw [List.length_reverse]
  have e : ts.toArray.reverse.toList = ts.reverse := by simp
  rw [← e]
  exact s.1
end Go.Proofs.YtblpknkgjkbacaaGreatDoor
namespace Go.Proofs.YtblpknkgjkbacaaGreatDoor
open Go.RowKit Go.Sort
attribute [local go_sem ↓] Go.wp_at_zero Go.wp_at_succ
theorem less_cmp : ∀ a b : List UInt8, Lib.compareBytes a b < 0 ↔ Op.bytesLess a b = true
  | [], [] => by simp [Lib.compareBytes, Op.bytesLess]
  | [], _ :: _ => by simp [Lib.compareBytes, Op.bytesLess]
  | _ :: _, [] => by simp [Lib.compareBytes, Op.bytesLess]
  | a :: x, b :: y => by
    simp only [Lib.compareBytes, Op.bytesLess]
    by_cases h1 : a < b
    · simp [h1]
    · rw [if_neg h1]
      by_cases h2 : b < a
      · rw [if_pos h2]
        have h3 : a ≠ b := fun e => by subst e; exact h1 h2
        simp [h1, h3]
      · rw [if_neg h2]
        have h3 : a = b := UInt8.le_antisymm (UInt8.not_lt.1 h2) (UInt8.not_lt.1 h1)
        rw [less_cmp x y]
        simp [h3]
end Go.Proofs.YtblpknkgjkbacaaGreatDoor
namespace Go.Proofs.YtblpknkgjkbacaaGreatDoor
open Go.RowKit
attribute [local go_sem ↓] Go.wp_at_zero Go.wp_at_succ
variable {w0 w2 wr : World} {X : Nat} {sv kv cv pv : Value} {fl : List CondD} {tvs : List Value}
theorem owns_under {w w' : World} {P : Nat} {e : TypeId} {size : Nat} {v : Value} {n : Nat} {xs : List Value} {r : Option Nat} (ho : w.ownsRow P e size v n xs) (hg : w.grownBy w' r) (hr : ∀ k, r = some k → k < P) : w'.ownsRow P e size v n xs := by
  refine ho.kept hg ?_
  cases hb : Value.ownBlock _ with
  | none => exact .inl rfl
  | some g =>
    refine .inr fun e => ?_
    have := (ho.lt g hb).1
    have := hr g e.symm
    omega
end Go.Proofs.YtblpknkgjkbacaaGreatDoor
