/-
 SetsChanged: the walk of the law.
-/
import Derived.BigQuiet
import Derived.Deep.RegionHeld3
import Derived.Deep.DeepMust
import Derived.Test.YtgeklmigfhhpfaaGreatDoorQ06
import Derived.Test.YtgeklmigfhhpfaaGreatDoorQ08
import Derived.Test.YtgeklmigfhhpfaaGreatDoorQ11
import Derived.Test.YtgeklmigfhhpfaaGreatDoorQ22
import Derived.Test.YtgeklmigfhhpfaaGreatDoorQ24
import Derived.Test.YtgeklmigfhhpfaaGreatDoorQ35
import Derived.Test.YtgeklmigfhhpfaaGreatDoorQ40
import Derived.Test.YtgeklmigfhhpfaaGreatDoorQ41
import Derived.Test.YtgeklmigfhhpfaaGreatDoorQ42
namespace Go.Proofs.YtgeklmigfhhpfaaGreatDoor
open Go.RowKit
def oneSet : List SideD × List CondD := ([(⟨#[105]⟩, 1, 4)], [])
theorem nameI : nameB ⟨#[105]⟩ = true := by
 have e : containsB resL ⟨#[105]⟩ = false := by rw [resB_eq, ByteArray.toList_eq]; decide
 have a : allOk ⟨#[105]⟩ 1 = true := by decide
 have s : (⟨#[105]⟩ : ByteArray).size = 1 := rfl
 unfold nameB
 rw [s, a, e]
 rfl
theorem oneSet_err : setErr oneSet = 0 := by
 have h : sidesErr [] oneSet.1 = 0 := by
  simp only [oneSet, sidesErr, nameI]
  simp [containsB, sideBad, inB]
 rw [setErr_4 (by decide) h (by decide) rfl]
 decide
theorem oneSet_count : countOf oneSet = 4 := by
 unfold countOf
 rw [oneSet_err]
 simp [oneSet, pointsFrom, rangeI, pointB, insideB, inB, List.range_succ]
theorem oneSet_at (w : World) : SetAt (w.alloc (.cells #[.string ⟨#[105]⟩, .int .i64 1, .int .i64 4] 63)) (.slice (some ⟨w.heap.size, 0, none⟩) 1 1) (.slice none 0 0) oneSet := by
 refine ⟨⟨_, 1, rfl, ⟨by decide, by decide⟩, fun j s hj => ?_⟩, ⟨none, 0, rfl, by decide, fun j f hj => by simp [oneSet] at hj⟩⟩
 cases j with
 | zero =>
   simp [oneSet] at hj
   subst hj
   exact ⟨w.heap.size, 0, rfl, by decide, ⟨by decide, by decide⟩, ⟨by decide, by decide⟩, by simp, by simp, by simp⟩
 | succ j => simp [oneSet] at hj
set_option maxHeartbeats 1000000 in
theorem counted_any (w : World) : Calls Tryz.prog 28 #[] w (Gives (.bool true) w) := by
 have HC := uH (count_any oneSet _ _ _ (oneSet_at w))
 rw [oneSet_err, oneSet_count] at HC
 go_enter Tryz.func28, Tryz.ntmps28
 go_wp2_with (go_at_call 80; go_must (refine HC.out.mono ?_; rintro e w1 ⟨rfl, hg⟩; have HG := uH hg; clear hg))
 go_ret
 exact ⟨rfl, gT (gA _ _ _) HG.out⟩
attribute [local go_sem ↓] Go.wp_at_zero Go.wp_at_succ
theorem stream_start {w : World} {L : Value} (hL : ListAt w w.heap.size L) : StreamAt (w.alloc (.cells #[L, .int .i64 0] 25)) w.heap.size 0 :=
 ⟨L, 0, Nat.le_refl _, heap_alloc_new _ _, hL.kept (gA _ _ _)⟩
structure LwR (A E F : Nat) (S T : List SideD × List CondD) (sv cv tv dv : Value) (c : Int) (ts : List TermD) (bv : Value) (w : World) : Prop where
 ba : w.heap[A]? = some (.cells #[sv, cv] 29 (0, 0))
 bb : w.heap[E]? = some (.cells #[tv, dv] 29 (0, 0))
 bf : w.heap[F]? = some (.cells #[.int .i64 c, bv] 35 (0, 0))
 set : SetAt w sv cv S
 two : SetAt w tv dv T
 terms : TermsAt w bv ts
 pow : PowTab w
def BoxS (X : Nat) (D : List SideD × List CondD) (w : World) : Prop := ∃ sv cv, w.heap[X]? = some (.cells #[sv, cv] 29 (0, 0)) ∧ SetAt w sv cv D
variable {A E F X Y : Nat} {S T D : List SideD × List CondD} {sv cv tv dv bv : Value} {c : Int} {ts : List TermD} {w w' : World}
theorem LwR.kept (h : LwR A E F S T sv cv tv dv c ts bv w) (hg : w.grownBy w' none) : LwR A E F S T sv cv tv dv c ts bv w' :=
 ⟨kH h.ba hg (by simp), kH h.bb hg (by simp), kH h.bf hg (by simp), h.set.kept hg, h.two.kept hg, h.terms.kept hg, h.pow.kept hg⟩
theorem LwR.a0 (h : LwR A E F S T sv cv tv dv c ts bv w) : w.cell? ⟨A, 0, none⟩ = some sv := by simp [World.cell?, h.ba]
theorem LwR.a1 (h : LwR A E F S T sv cv tv dv c ts bv w) : w.cell? ⟨A, 1, none⟩ = some cv := by simp [World.cell?, h.ba]
theorem LwR.b0 (h : LwR A E F S T sv cv tv dv c ts bv w) : w.cell? ⟨E, 0, none⟩ = some tv := by simp [World.cell?, h.bb]
theorem LwR.b1 (h : LwR A E F S T sv cv tv dv c ts bv w) : w.cell? ⟨E, 1, none⟩ = some dv := by simp [World.cell?, h.bb]
theorem LwR.f0 (h : LwR A E F S T sv cv tv dv c ts bv w) : w.cell? ⟨F, 0, none⟩ = some (.int .i64 c) := by simp [World.cell?, h.bf]
theorem LwR.f1 (h : LwR A E F S T sv cv tv dv c ts bv w) : w.cell? ⟨F, 1, none⟩ = some bv := by simp [World.cell?, h.bf]
theorem BoxS.kept (h : BoxS X D w) (hg : w.grownBy w' none) : BoxS X D w' := by
 obtain ⟨a, b, h1, h2⟩ := h
 exact ⟨a, b, kH h1 hg (by simp), h2.kept hg⟩
theorem place_if (S : List SideD × List CondD) (x : ByteArray) (h : setErr S = 0) : placeErr S x = nameErr (namesOf S.1) x := by unfold placeErr; rw [if_pos h]
theorem bad_set {S : List SideD × List CondD} (x : ByteArray) (b : CondD) (h : setErr S ≠ 0) : tightZ S = setErr S ∧ tightD S = ([], []) ∧ shadowZ S x = setErr S ∧ shadowD S x = ([], []) ∧ mappedZ S x b = setErr S ∧ mappedD S x b = ([], []) := by
 have hp : placeErr S x = setErr S := by unfold placeErr; rw [if_neg h]
 have hp0 : placeErr S x ≠ 0 := by rw [hp]; exact h
 have ha : aroundX S x b = placeErr S x := by unfold aroundX; rw [if_neg hp0]
 have ha0 : aroundX S x b ≠ 0 := by rw [ha]; exact hp0
 exact ⟨if_neg h, if_neg h, (if_neg hp0).trans hp, if_neg hp0, (if_neg ha0).trans (ha.trans hp), if_neg ha0⟩
theorem bad_name {S : List SideD × List CondD} {x : ByteArray} (b : CondD) (h : setErr S = 0) (h2 : nameErr (namesOf S.1) x ≠ 0) : shadowZ S x = nameErr (namesOf S.1) x ∧ shadowD S x = ([], []) ∧ mappedZ S x b = nameErr (namesOf S.1) x ∧ mappedD S x b = ([], []) := by
 have hp := place_if S x h
 have hp0 : placeErr S x ≠ 0 := by rw [hp]; exact h2
 have ha : aroundX S x b = placeErr S x := by unfold aroundX; rw [if_neg hp0]
 have ha0 : aroundX S x b ≠ 0 := by rw [ha]; exact hp0
 exact ⟨(if_neg hp0).trans hp, if_neg hp0, (if_neg ha0).trans (ha.trans hp), if_neg ha0⟩
theorem around_one {S : List SideD × List CondD} {x : ByteArray} {c : Int} {ts : List TermD} (h : placeErr S x = 0) (hf : formErr c ts ≠ 0) : aroundX S x (c, ts) = formErr c ts := by
 unfold aroundX aroundErr
 rw [if_pos h, if_neg (by simpa using hf)]
theorem around_two {S : List SideD × List CondD} {x : ByteArray} {b : CondD} (h : placeErr S x = 0) : aroundX S x b = aroundErr (namesOf (shadowS S x).1) b := by
 unfold aroundX
 rw [if_pos h]
 rfl
theorem formFault_law (c : Int) (ts : List TermD) (bv : Value) (w : World) (h : TermsAt w bv ts) :
  Calls Tryz.prog 24 #[.agg #[.int .i64 c, bv]] w (Gives (.int .i64 (formErr c ts)) w) := by
 obtain ⟨p, cap, rfl, hl, hc⟩ := h
 exact formFault_at c ts p cap w hl hc
theorem box_cells (h : BoxS X D w) : ∃ p k q l, (w.cell? ⟨X, 0, none⟩ = some (.slice p D.1.length k) ∧ w.cell? ⟨X, 1, none⟩ = some (.slice q D.2.length l)) ∧ SetAt w (.slice p D.1.length k) (.slice q D.2.length l) D := by
 obtain ⟨a, b, h1, h2⟩ := h
 obtain ⟨⟨p, k, rfl, -⟩, ⟨q, l, rfl, -⟩⟩ := id h2
 obtain ⟨c0, c1, _⟩ := cO h1
 exact ⟨p, k, q, l, ⟨c0, c1⟩, h2⟩
theorem eqSet_self (D : List SideD × List CondD) : eqSet D D = true := by simp [eqSet]
theorem names_one (sn : List ByteArray) (x : ByteArray) : namesGo sn [] [x] = nameErr sn x := by
 by_cases h : nameErr sn x = 0
 · simp [namesGo, containsB, h]
 · simp [namesGo, h]
theorem strs_one {w : World} {x : ByteArray} {T : TypeId} : StrsAt (w.alloc (.cells #[.string x] T)) (.slice (some ⟨w.heap.size, 0, none⟩) 1 1) [x] := by
 refine ⟨_, 1, rfl, by simp [maxLen], fun j s hj => ⟨w.heap.size, 0, rfl, ?_⟩⟩
 match j, hj with
 | 0, hj => obtain rfl := Option.some.inj hj; unfold World.cell?; rw [heap_alloc_new]; rfl
 | j + 1, hj => simp at hj
structure RefS (w6 : World) (Y1 Y2 Y3 Y4 : Nat) (D1 D2 D3 D4 : List SideD × List CondD) (w : World) : Prop where
 grown : w6.grownBy w none
 le : w6.heap.size ≤ Y1 ∧ Y1 < Y2 ∧ Y2 < Y3 ∧ Y3 < Y4
 b1 : BoxS Y1 D1 w
 b2 : BoxS Y2 D2 w
 b3 : BoxS Y3 D3 w
 b4 : BoxS Y4 D4 w
theorem RefS.kept {w6 : World} {Y1 Y2 Y3 Y4 : Nat} {D1 D2 D3 D4 : List SideD × List CondD} (h : RefS w6 Y1 Y2 Y3 Y4 D1 D2 D3 D4 w) (hg : w.grownBy w' none) : RefS w6 Y1 Y2 Y3 Y4 D1 D2 D3 D4 w' :=
 ⟨gT h.grown hg, h.le, h.b1.kept hg, h.b2.kept hg, h.b3.kept hg, h.b4.kept hg⟩
theorem nil_box (w : World) {X : Nat} (h : w.heap[X]? = some (.cells #[.slice none 0 0, .slice none 0 0] 29 (0, 0))) : BoxS X ([], []) w := ⟨_, _, h, set_nil w⟩
theorem RefS.start {w6 : World} (h : w6.grownBy w none) (w8 : World) (h8 : w8 = (((w.alloc (.cells #[.slice none 0 0, .slice none 0 0] 29)).alloc (.cells #[.slice none 0 0, .slice none 0 0] 29)).alloc (.cells #[.slice none 0 0, .slice none 0 0] 29)).alloc (.cells #[.slice none 0 0, .slice none 0 0] 29)) :
  RefS w6 w.heap.size (w.heap.size + 1) (w.heap.size + 1 + 1) (w.heap.size + 1 + 1 + 1) ([], []) ([], []) ([], []) ([], []) w8 := by
 have hs := h.size
 have hg : w.grownBy w8 none := by
  rw [h8]
  exact gT (gA _ _ _) (gT (gA _ _ _) (gT (gA _ _ _) (gA _ _ _)))
 refine ⟨gT h hg, ⟨hs, by omega, by omega, by omega⟩, nil_box _ ?_, nil_box _ ?_, nil_box _ ?_, nil_box _ ?_⟩ <;> rw [h8]
 all_goals
  show ((((w.heap.push _).push _).push _).push _)[_]? = _
  simp only [Array.getElem?_push, Array.size_push]
  repeat (first | rw [if_pos trivial] | rw [if_pos rfl] | rw [if_neg (by omega)])
theorem box_put {a b : Option Addr} {n m k l : Nat} {D' : List SideD × List CondD} (h : BoxS X D w) (hs : SetAt w (.slice a n k) (.slice b m l) D') :
  BoxS X D' ((w.setCell ⟨X, 0, none⟩ (.slice a n k)).setCell ⟨X, 1, none⟩ (.slice b m l)) ∧ w.grownBy ((w.setCell ⟨X, 0, none⟩ (.slice a n k)).setCell ⟨X, 1, none⟩ (.slice b m l)) (some X) ∧
  ∀ Z DZ, Z ≠ X → BoxS Z DZ w → BoxS Z DZ ((w.setCell ⟨X, 0, none⟩ (.slice a n k)).setCell ⟨X, 1, none⟩ (.slice b m l)) := by
 obtain ⟨zs, zc, hz, hz2⟩ := h
 obtain ⟨⟨q, c, rfl, -⟩, ⟨q', c', rfl, -⟩⟩ := id hz2
 obtain ⟨f1, f2⟩ := two_set hz (.slice a n k) (.slice b m l)
 refine ⟨⟨_, _, f1, hs.over (slBox_two hz) f2⟩, f2, fun Z DZ hne hB => ?_⟩
 obtain ⟨us, uc, hu, hu2⟩ := hB
 exact ⟨us, uc, kH hu f2 (by simpa using fun e => hne e.symm), hu2.over (slBox_two hz) f2⟩
theorem RefS.put1 {w6 : World} {Y1 Y2 Y3 Y4 : Nat} {D1 D2 D3 D4 D' : List SideD × List CondD} {a b : Option Addr} {n m k l : Nat} (h : RefS w6 Y1 Y2 Y3 Y4 D1 D2 D3 D4 w) (hs : SetAt w (.slice a n k) (.slice b m l) D') :
  RefS w6 Y1 Y2 Y3 Y4 D' D2 D3 D4 ((w.setCell ⟨Y1, 0, none⟩ (.slice a n k)).setCell ⟨Y1, 1, none⟩ (.slice b m l)) := by
 obtain ⟨f1, f2, f3⟩ := box_put h.b1 hs
 obtain ⟨l1, l2, l3, l4⟩ := h.le
 exact ⟨gO h.grown f2 (fun k hk => by cases hk; omega), h.le, f1, f3 _ _ (by omega) h.b2, f3 _ _ (by omega) h.b3, f3 _ _ (by omega) h.b4⟩
theorem RefS.put2 {w6 : World} {Y1 Y2 Y3 Y4 : Nat} {D1 D2 D3 D4 D' : List SideD × List CondD} {a b : Option Addr} {n m k l : Nat} (h : RefS w6 Y1 Y2 Y3 Y4 D1 D2 D3 D4 w) (hs : SetAt w (.slice a n k) (.slice b m l) D') :
  RefS w6 Y1 Y2 Y3 Y4 D1 D' D3 D4 ((w.setCell ⟨Y2, 0, none⟩ (.slice a n k)).setCell ⟨Y2, 1, none⟩ (.slice b m l)) := by
 obtain ⟨f1, f2, f3⟩ := box_put h.b2 hs
 obtain ⟨l1, l2, l3, l4⟩ := h.le
 exact ⟨gO h.grown f2 (fun k hk => by cases hk; omega), h.le, f3 _ _ (by omega) h.b1, f1, f3 _ _ (by omega) h.b3, f3 _ _ (by omega) h.b4⟩
theorem RefS.put3 {w6 : World} {Y1 Y2 Y3 Y4 : Nat} {D1 D2 D3 D4 D' : List SideD × List CondD} {a b : Option Addr} {n m k l : Nat} (h : RefS w6 Y1 Y2 Y3 Y4 D1 D2 D3 D4 w) (hs : SetAt w (.slice a n k) (.slice b m l) D') :
  RefS w6 Y1 Y2 Y3 Y4 D1 D2 D' D4 ((w.setCell ⟨Y3, 0, none⟩ (.slice a n k)).setCell ⟨Y3, 1, none⟩ (.slice b m l)) := by
 obtain ⟨f1, f2, f3⟩ := box_put h.b3 hs
 obtain ⟨l1, l2, l3, l4⟩ := h.le
 exact ⟨gO h.grown f2 (fun k hk => by cases hk; omega), h.le, f3 _ _ (by omega) h.b1, f3 _ _ (by omega) h.b2, f1, f3 _ _ (by omega) h.b4⟩
theorem RefS.put4 {w6 : World} {Y1 Y2 Y3 Y4 : Nat} {D1 D2 D3 D4 D' : List SideD × List CondD} {a b : Option Addr} {n m k l : Nat} (h : RefS w6 Y1 Y2 Y3 Y4 D1 D2 D3 D4 w) (hs : SetAt w (.slice a n k) (.slice b m l) D') :
  RefS w6 Y1 Y2 Y3 Y4 D1 D2 D3 D' ((w.setCell ⟨Y4, 0, none⟩ (.slice a n k)).setCell ⟨Y4, 1, none⟩ (.slice b m l)) := by
 obtain ⟨f1, f2, f3⟩ := box_put h.b4 hs
 obtain ⟨l1, l2, l3, l4⟩ := h.le
 exact ⟨gO h.grown f2 (fun k hk => by cases hk; omega), h.le, f3 _ _ (by omega) h.b1, f3 _ _ (by omega) h.b2, f3 _ _ (by omega) h.b3, f1⟩
theorem both_bad (h : errTwo (setErr S) (setErr T) ≠ 0) : bothErr S T = errTwo (setErr S) (setErr T) := by
 unfold bothErr errTwo at *
 by_cases h1 : setErr S = 0 <;> by_cases h2 : setErr T = 0 <;> simp_all
theorem both_fit (h : errTwo (setErr S) (setErr T) = 0) : bothErr S T = if (!fitB S.1 T.1) = true then 3 else 0 := by
 unfold bothErr errTwo at *
 by_cases h1 : setErr S = 0 <;> by_cases h2 : setErr T = 0 <;> by_cases h3 : fitB S.1 T.1 = true <;> simp_all
theorem box_new {w : World} {a b : Value} (h : SetAt w a b D) : BoxS w.heap.size D (w.alloc (.cells #[a, b] 29)) := ⟨a, b, heap_alloc_new _ _, h.kept (gA _ _ _)⟩
theorem law_start {B M M2 M3 M4 nt tcap : Nat} {w w1 w2 w3 w4 wl : World} {p pc p2 pc2 pt : Option Addr} {cap ccap cap2 ccap2 : Nat} (hlt : B < wl.heap.size) (hB : B = w.heap.size) (hg0 : w.grownBy wl none) (hp : PowTab w)
  (hS : SetStay B w1 (.slice p S.1.length cap) (.slice pc S.2.length ccap) S) (hd1 : Drawn B M wl w1) (hd2 : Drawn B M2 (w1.alloc (.cells #[.slice p S.1.length cap, .slice pc S.2.length ccap] 29)) w2) (hT : SetStay B w2 (.slice p2 T.1.length cap2) (.slice pc2 T.2.length ccap2) T)
  (hd3 : Drawn B M3 w2 w3) (hd4 : Drawn B M4 w3 w4) (ht : TermRow w4 w3.heap.size (.slice pt nt tcap) ts) (hgt : ∀ t ∈ ts, goodTerm t) (hn : nt ≤ 3) (hts : ts.length = nt) (w5 : World)
  (h5 : w5 = (w4.alloc (.cells #[.slice p2 T.1.length cap2, .slice pc2 T.2.length ccap2] 29)).alloc (.cells #[.int .i64 c, .slice pt nt tcap] 35)) :
  LwR w1.heap.size w4.heap.size (w4.heap.size + 1) S T (.slice p S.1.length cap) (.slice pc S.2.length ccap) (.slice p2 T.1.length cap2) (.slice pc2 T.2.length ccap2) c ts (.slice pt nt tcap) w5 ∧ w.grownBy w5 none := by
 subst hB
 have ha := gA w1 (.cells #[.slice p S.1.length cap, .slice pc S.2.length ccap] 29)
 have hb := gA w4 (.cells #[.slice p2 T.1.length cap2, .slice pc2 T.2.length ccap2] 29)
 have hf := gA (w4.alloc (.cells #[.slice p2 T.1.length cap2, .slice pc2 T.2.length ccap2] 29)) (.cells #[.int .i64 c, .slice pt nt tcap] 35)
 rw [← h5] at hf
 have h45 : ∀ r, w4.grownBy w5 r := fun r => gT (hb r) (hf r)
 have h25 : w2.grownBy w5 (some w.heap.size) := gT hd3.1 (gT hd4.1 (h45 _))
 have hA5 := gT hd2.1 h25
 have h05 : wl.grownBy w5 (some w.heap.size) := gT hd1.1 (gT (ha _) hA5)
 have hg : w.grownBy w5 none := gO hg0 h05 (fun k hk => by cases hk; exact Nat.le_refl _)
 have s1 := hd1.1.size
 have s2 := hd2.1.size
 have s3 := hd3.1.size
 have s4 := hd4.1.size
 rw [World.size_alloc] at s2
 refine ⟨⟨kH (heap_alloc_new w1 _) hA5 (by simp; omega), kH (heap_alloc_new w4 _) (hf none) (by simp), ?_, hS w5 (gT (ha _) hA5), hT w5 h25, ?_, hp.kept hg⟩, hg⟩
 · rw [h5]
   have h := heap_alloc_new (w4.alloc (.cells #[.slice p2 T.1.length cap2, .slice pc2 T.2.length ccap2] 29)) (.cells #[.int .i64 c, .slice pt nt tcap] 35)
   rwa [World.size_alloc] at h
 · exact terms_of_owns (World.ownsRow.kept ht (h45 (some w.heap.size)) (own_ne ht (by omega))) (by omega) hgt
attribute [local go_sem ↓] Go.wp_at_zero Go.wp_at_succ
set_option maxRecDepth 100000 in
set_option maxHeartbeats 8000000 in
theorem setsChanged_any (L : Value) (w : World) (hL : ListAt w w.heap.size L) (hp : PowTab w) :
  Calls Tryz.prog 3 #[L] w (Gives (.bool true) w) := by
 have HP := uH hp
 have HSt := uH (stream_start hL)
 obtain ⟨pL, nL, cL, rfl⟩ : ∃ p n c, L = .slice p n c := by rcases hL with h | ⟨b, off, len, cap, h, _⟩ <;> exact ⟨_, _, _, h⟩
 clear hL hp
 go_enter Tryz.func3, Tryz.ntmps3
 go_upto_region 4 with (first
  | (go_at_call 4; go_must (refine (aSet_any w.heap.size 0 _ HSt.out (by omega)).mono ?_; rintro e w1 ⟨sv, cv, S, rfl, hset, hS100, hd⟩; obtain ⟨⟨⟨p, cap, rfl, _⟩, ⟨pc, ccap, rfl, _⟩⟩, hS4, -⟩ := hset w1 (gR _ _); have HS4 := uH hS4; have HS1 := uH hS100; have HSet : Hid (SetStay w.heap.size w1 (.slice p S.1.length cap) (.slice pc S.2.length ccap) S) := (fun w2 h2 => (hset w2 h2).1); have HD := uH hd; have hlt := HSt.out.lt; have hs1 := hd.1.size; have hb := heap_alloc_new w1 (.cells #[.slice p S.1.length cap, .slice pc S.2.length ccap] 29); have HBa := uH hb; obtain ⟨a0, a1, af⟩ := cO hb; clear hset hd hS100 hS4 hb))
  | (go_at_call 5; go_must (refine (other_any w.heap.size (0 + 1000) S _ _ _ (HD.out.2.kept (gA _ _ _)) (by omega) (fun w2 h2 => HSet.out w2 (gT (gA _ _ _) h2)) HS1.out HS4.out).mono ?_; rintro e w2 ⟨tv, dv, T, rfl, htw, hd2⟩; obtain ⟨⟨p2, cap2, rfl, _⟩, ⟨pc2, ccap2, rfl, _⟩⟩ := htw w2 (gR _ _); have HTw := uH htw; have HD2 := uH hd2; have hs2 := hd2.1.size; clear htw hd2))
  | (go_at_call 6; go_must (refine (some_lit' w.heap.size (0 + 1000 + 5000) _ [⟨#[105]⟩, ⟨#[106]⟩, ⟨#[105]⟩, ⟨#[107]⟩, ⟨#[122, 122]⟩, ⟨#[]⟩] _ w2 rfl HD2.out.2 (by omega) (by simp) (by simp)).mono ?_; rintro e w3 ⟨x, hx, rfl, hd3⟩; have HX := uH ((by decide : ∀ z ∈ [(⟨#[105]⟩ : ByteArray), ⟨#[106]⟩, ⟨#[105]⟩, ⟨#[107]⟩, ⟨#[122, 122]⟩, ⟨#[]⟩], z.size ≤ 2) x hx); have HD3 := uH hd3; have hs3 := hd3.1.size; clear hx hd3))
  | (go_at_call 7; go_must (refine (anyForm_any w.heap.size _ w3 HD3.out.2 (by omega)).mono ?_; rintro e w4 ⟨c, pt, nt, tcap, ts, rfl, hts, hn3, hc2, ht2, hgt, hd4⟩; have HTs := uH hts; have HC2 := uH hc2; have HT2 := uH ht2; have HGt := uH hgt; have HN3 := uH hn3; have HD4 := uH hd4; have hs4 := hd4.1.size; clear hts hn3 hc2 ht2 hgt hd4))
  )
 obtain ⟨hr, hg⟩ := law_start (c := c) hlt rfl (gA w _ none) HP.out HSet.out HD.out HD2.out HTw.out HD3.out HD4.out HT2.out HGt.out HN3.out HTs.out _ rfl
 have R := uH hr
 have G := uH hg
 clear hr hg HBa a0 a1 af HSt HSet HD HD2 HTw HD3 HD4 HT2 HGt HC2 HS4 HS1 hs1 hs2 hs3 hs4 hlt
 generalize (w4.alloc (.cells #[.slice p2 T.1.length cap2, .slice pc2 T.2.length ccap2] 29)).alloc (.cells #[.int .i64 c, .slice pt nt tcap] 35) = w5 at *
 have hA0 := (Array.getElem?_eq_some_iff.1 R.out.ba).1
 have hE0 := (Array.getElem?_eq_some_iff.1 R.out.bb).1
 have hF0 := (Array.getElem?_eq_some_iff.1 R.out.bf).1
 generalize w4.heap.size = E at *
 generalize E + 1 = F at *
 generalize w1.heap.size = A at *
 have a0 := R.out.a0; have a1 := R.out.a1; have b0 := R.out.b0; have b1 := R.out.b1; have f0 := R.out.f0; have f1 := R.out.f1
 go_cut [8, 9] (fun s8 s9 wx => s8 = .int .i64 (setErr S) ∧ s9 = .int .i64 (setErr T) ∧ Hid (w5.grownBy wx none))
 case first => as_aux_lemma =>
  have HW0 : Hid ((fun W : World => w5.grownBy W none) w5.drew) := gD w5 none
  refine region_late (n := 4) (S := fun W : World => w5.grownBy W none) (by kernel_rfl) ⟨by kernel_rfl, by kernel_rfl, by kernel_rfl, by decide⟩ ?_
  refine late_take (i := 0) (v := ?va_0) ⟨by kernel_rfl, by kernel_rfl, by kernel_rfl, by decide⟩ rfl (by decide +kernel) (by decide +kernel) (by decide +kernel) (fun _ _ _ h => h) (Or.inl ⟨by rfl, ?ha_0⟩) HW0.out ?ra_0
  case ha_0 =>
   intro W hW
   have x0 := hW.cell a0 (by simp)
   have x1 := hW.cell a1 (by simp)
   go_simp
   with_reducible rfl
  go_frame
  refine late_take (i := 2) (v := ?va_2) ⟨by kernel_rfl, by kernel_rfl, by kernel_rfl, by decide⟩ rfl (by decide +kernel) (by decide +kernel) (by decide +kernel) (fun _ _ _ h => h) (Or.inl ⟨by rfl, ?ha_2⟩) HW0.out ?ra_2
  case ha_2 =>
   intro W hW
   have x0 := hW.cell b0 (by simp)
   have x1 := hW.cell b1 (by simp)
   go_simp
   with_reducible rfl
  go_frame
  refine late_one (i := 1) rfl (by kernel_rfl) (by kernel_rfl) (fun K hK => ?_)
  have HK := uH hK
  clear hK
  refine op_enter (by rfl) 8 #[.agg #[.slice p S.1.length cap, .slice pc S.2.length ccap]] (by kernel_rfl) ((setFault_any S _ _ w5.drew (R.out.set.kept HW0.out)).mono ?_)
  rintro e v1 ⟨rfl, hg⟩
  have HW1 : Hid ((fun W : World => w5.grownBy W none) v1) := gT HW0.out hg
  refine ⟨_, rfl, HK.out _ _ HW1.out ?_⟩
  clear HK hg
  go_frame
  refine late_one (i := 3) rfl (by kernel_rfl) (by kernel_rfl) (fun K hK => ?_)
  have HK := uH hK
  clear hK
  refine op_enter (by rfl) 8 #[.agg #[.slice p2 T.1.length cap2, .slice pc2 T.2.length ccap2]] (by kernel_rfl) ((setFault_any T _ _ v1 (R.out.two.kept HW1.out)).mono ?_)
  rintro e v2 ⟨rfl, hg⟩
  have HW2 : Hid ((fun W : World => w5.grownBy W none) v2) := gT HW1.out hg
  refine ⟨_, rfl, HK.out _ _ HW2.out ?_⟩
  clear HK hg
  go_frame
  refine late_done (by decide +kernel) ?_
  simp only [List.drop_succ_cons, List.drop_zero]
  go_wp2_with fail
  go_meet
  case rel => exact ⟨rfl, rfl, HW2⟩
 case rest =>
 obtain ⟨rfl, rfl, K⟩ := hcut
 as_aux_lemma =>
 have R0 := uH (R.out.kept K.out)
 have G0 := uH (gT G.out K.out)
 clear a0 a1 b0 b1 f0 f1 R G K
 have a0 := R0.out.a0; have a1 := R0.out.a1; have b0 := R0.out.b0; have b1 := R0.out.b1; have f0 := R0.out.f0; have f1 := R0.out.f1
 have HXm : Hid (x.size ≤ maxLen) := (by have h := HX.out; unfold maxLen; show x.size ≤ _; omega)
 go_upto_region 10 with (first
  | (go_at_call 9; go_must (refine (meet_both S T _ _ _ _ _ R0.out.set R0.out.two).mono ?_; rintro e v1 ⟨hg, _, _, rfl, hM⟩; obtain ⟨⟨q1, k1, rfl, -⟩, ⟨r1, l1, rfl, -⟩⟩ := id hM; have B1 := uH (box_new hM); have g := gT hg (gA v1 (.cells #[.slice q1 (meetD S T).1.length k1, .slice r1 (meetD S T).2.length l1] 29) none); have R1 := uH (R0.out.kept g); have G1 := uH (gT G0.out g); have a0 := R1.out.a0; have a1 := R1.out.a1; have b0 := R1.out.b0; have b1 := R1.out.b1; have f0 := R1.out.f0; have f1 := R1.out.f1; clear hg hM g))
  | (go_at_call 10; go_must (refine (same_any S T _ _ _ _ _ R1.out.set R1.out.two).mono ?_; rintro e v2 ⟨rfl, hg⟩; have R2 := uH (R1.out.kept hg); have G2 := uH (gT G1.out hg); have B1 := uH (B1.out.kept hg); have a0 := R2.out.a0; have a1 := R2.out.a1; have b0 := R2.out.b0; have b1 := R2.out.b1; have f0 := R2.out.f0; have f1 := R2.out.f1; clear hg))
  | (go_at_call 11; go_must (refine (tight_both S _ _ _ R2.out.set).mono ?_; rintro e v3 ⟨hg, _, _, rfl, hM⟩; obtain ⟨⟨q3, k3, rfl, -⟩, ⟨r3, l3, rfl, -⟩⟩ := id hM; have B3 := uH (box_new hM); have g := gT hg (gA v3 (.cells #[.slice q3 (tightD S).1.length k3, .slice r3 (tightD S).2.length l3] 29) none); have R3 := uH (R2.out.kept g); have G3 := uH (gT G2.out g); have B1 := uH (B1.out.kept g); have a0 := R3.out.a0; have a1 := R3.out.a1; have b0 := R3.out.b0; have b1 := R3.out.b1; have f0 := R3.out.f0; have f1 := R3.out.f1; clear hg hM g))
  | (go_at_call 12; go_must (refine (shadow_both S x _ _ _ HXm.out R3.out.set).mono ?_; rintro e v4 ⟨hg, _, _, rfl, hM⟩; obtain ⟨⟨q4, k4, rfl, -⟩, ⟨r4, l4, rfl, -⟩⟩ := id hM; have B4 := uH (box_new hM); have g := gT hg (gA v4 (.cells #[.slice q4 (shadowD S x).1.length k4, .slice r4 (shadowD S x).2.length l4] 29) none); have R4 := uH (R3.out.kept g); have G4 := uH (gT G3.out g); have B1 := uH (B1.out.kept g); have B3 := uH (B3.out.kept g); have a0 := R4.out.a0; have a1 := R4.out.a1; have b0 := R4.out.b0; have b1 := R4.out.b1; have f0 := R4.out.f0; have f1 := R4.out.f1; clear hg hM g))
  | (go_at_call 13; go_must (refine (mapped_both S x (c, ts) _ _ _ _ HXm.out R4.out.set R4.out.terms).mono ?_; rintro e v5 ⟨hg, _, _, rfl, hM⟩; obtain ⟨⟨q5, k5, rfl, -⟩, ⟨r5, l5, rfl, -⟩⟩ := id hM; have B5 := uH (box_new hM); have g := gT hg (gA v5 (.cells #[.slice q5 (mappedD S x (c, ts)).1.length k5, .slice r5 (mappedD S x (c, ts)).2.length l5] 29) none); have R5 := uH (R4.out.kept g); have G5 := uH (gT G4.out g); have B1 := uH (B1.out.kept g); have B3 := uH (B3.out.kept g); have B4 := uH (B4.out.kept g); have a0 := R5.out.a0; have a1 := R5.out.a1; have b0 := R5.out.b0; have b1 := R5.out.b1; have f0 := R5.out.f0; have f1 := R5.out.f1; clear hg hM g))
  )
 as_aux_lemma =>
 clear a0 a1 b0 b1 f0 f1 R0 R1 R2 R3 R4 G0 G1 G2 G3 G4
 generalize v5.alloc (.cells #[.slice q5 (mappedD S x (c, ts)).1.length k5, .slice r5 (mappedD S x (c, ts)).2.length l5] 29) = v6 at *
 generalize v1.heap.size = X1 at *
 generalize v3.heap.size = X3 at *
 generalize v4.heap.size = X4 at *
 generalize v5.heap.size = X5 at *
 have a0 := R5.out.a0; have a1 := R5.out.a1; have b0 := R5.out.b0; have b1 := R5.out.b1
 go_upto_if 83 with (go_at_call 14; go_must (refine (errs_any (setErr S) (setErr T) v6.heap.size _ (by simp) (by simp)).mono ?_; rintro e v7 ⟨rfl, hg⟩; have K := uH (gT (gA v6 _ none) hg); have R7 := uH (R5.out.kept K.out); have a0 := R7.out.a0; have a1 := R7.out.a1; have b0 := R7.out.b0; have b1 := R7.out.b1; clear hg))
 go_cut [20] (fun s20 wx => s20 = .int .i64 (bothErr S T) ∧ Hid (v6.grownBy wx none))
 case first => as_aux_lemma =>
  by_cases hO : errTwo (setErr S) (setErr T) = 0
  case neg =>
   have hO0 : (errTwo (setErr S) (setErr T) == 0) = false := by simpa using hO
   have HO := uH (both_bad hO)
   clear hO
   go_wp2_with fail
   go_meet
   case rel => exact ⟨by rw [HO.out], K⟩
  case pos =>
   have hO0 : (errTwo (setErr S) (setErr T) == 0) = true := by simp [hO]
   have HO := uH (both_fit hO)
   clear hO
   go_wp2_with (first
    | (go_at_call 16; go_must (refine (namesFit_any S T _ _ _ _ _ R7.out.set R7.out.two).mono ?_; rintro e v8 ⟨rfl, hg⟩; have K8 := uH (gT K.out hg); clear hg))
    | (go_at_call 15; go_must (refine (whenLaw_any (!fitB S.1 T.1) 3 _).mono ?_; rintro e v9 ⟨rfl, hg⟩; rw [← HO.out]; have K9 := uH (gT K8.out hg); clear hg)))
   go_meet
   case rel => exact ⟨rfl, K9⟩
 case rest =>
 obtain ⟨rfl, K7⟩ := hcut
 clear a0 a1 b0 b1 R7 K
 as_aux_lemma =>
 clear f0 f1
 go_upto_if 94 with fail
 have RF := uH (RefS.start K7.out _ rfl)
 generalize (((wc.alloc (.cells #[.slice none 0 0, .slice none 0 0] 29)).alloc (.cells #[.slice none 0 0, .slice none 0 0] 29)).alloc (.cells #[.slice none 0 0, .slice none 0 0] 29)).alloc (.cells #[.slice none 0 0, .slice none 0 0] 29) = w8 at *
 clear K7
 generalize wc.heap.size + 1 + 1 + 1 = Y4 at *
 generalize wc.heap.size + 1 + 1 = Y3 at *
 generalize wc.heap.size + 1 = Y2 at *
 generalize wc.heap.size = Y1 at *
 as_aux_lemma =>
 go_cut [21, 29] (fun s21 s29 wx => s21 = .int .i64 (meetZ S T) ∧ s29 = .bool (sameB S T) ∧ Hid (RefS v6 Y1 Y2 Y3 Y4 (meetD S T) ([], []) ([], []) ([], []) wx))
 case first => as_aux_lemma =>
  by_cases hb : bothErr S T = 0
  case neg =>
   have hb0 : (bothErr S T == 0) = false := by simpa using hb
   have h1 : meetZ S T = bothErr S T := if_neg hb
   have h2 : meetD S T = ([], []) := if_neg hb
   have h3 : sameB S T = false := if_neg hb
   have HB := uH (And.intro h1 (And.intro h2 h3))
   clear hb h1 h2 h3
   go_wp2_with fail
   go_meet
   case rel => exact ⟨by rw [HB.out.1], by rw [HB.out.2.2], by rw [HB.out.2.1]; exact RF⟩
  case pos =>
   have hb0 : (bothErr S T == 0) = true := by simp [hb]
   have h1 : meetZ S T = setErr (meetS S T) := if_pos hb
   have h2 : meetD S T = okSet (meetS S T) := if_pos hb
   have h3 : sameB S T = sameRows (pointsFrom S [] S.1) (pointsFrom T [] T.1) := if_pos hb
   have HB := uH (And.intro h1 (And.intro h2 h3))
   have HE := uH hb
   clear hb h1 h2 h3 a0 a1 b0 b1
   have R8 := uH (R5.out.kept RF.out.grown)
   have a0 := R8.out.a0; have a1 := R8.out.a1; have b0 := R8.out.b0; have b1 := R8.out.b1
   go_upto_region 18 with (first
    | (go_at_call 18; go_must (refine (meet_ref S T _ _ _ _ _ R8.out.set R8.out.two HE.out).mono ?_; rintro e v9 ⟨hg, _, _, rfl, hM⟩; obtain ⟨⟨q7, k7, rfl, -⟩, ⟨r7, l7, rfl, -⟩⟩ := id hM; have M9 := uH hM; have K9 := uH hg; clear hM hg))
    | (go_at_call 17; go_must (refine (checkedSet_any (meetS S T) _ _ _ M9.out).mono ?_; rintro e v10 ⟨hg, _, _, rfl, hM⟩; obtain ⟨⟨q6, k6, rfl, -⟩, ⟨r6, l6, rfl, -⟩⟩ := id hM; have g := gT K9.out hg; have F10 := uH (RF.out.kept g); have P10 := uH (F10.out.put1 hM); obtain ⟨zs, zc, hz, -⟩ := F10.out.b1; obtain ⟨y0, y1, yf⟩ := cO hz; clear hM hg g hz)))
   clear a0 a1 b0 b1 y0 y1 yf F10 M9 K9 R8
   generalize (v10.setCell ⟨Y1, 0, none⟩ (.slice q6 (okSet (meetS S T)).1.length k6)).setCell ⟨Y1, 1, none⟩ (.slice r6 (okSet (meetS S T)).2.length l6) = w11 at *
   have R11 := uH (R5.out.kept P10.out.grown)
   have a0 := R11.out.a0; have a1 := R11.out.a1; have b0 := R11.out.b0; have b1 := R11.out.b1
   have HW0 : Hid ((fun W : World => w11.grownBy W none) w11.drew) := gD w11 none
   refine region_late (n := 5) (S := fun W : World => w11.grownBy W none) (by kernel_rfl) ⟨by kernel_rfl, by kernel_rfl, by kernel_rfl, by decide⟩ ?_
   refine late_take (i := 0) (v := ?ve_0) ⟨by kernel_rfl, by kernel_rfl, by kernel_rfl, by decide⟩ rfl (by decide +kernel) (by decide +kernel) (by decide +kernel) (fun _ _ _ h => h) (Or.inl ⟨by rfl, ?he_0⟩) HW0.out ?re_0
   case he_0 =>
    intro W hW
    have x0 := hW.cell a0 (by simp)
    have x1 := hW.cell a1 (by simp)
    go_simp
    with_reducible rfl
   go_frame
   refine late_take (i := 2) (v := ?ve_2) ⟨by kernel_rfl, by kernel_rfl, by kernel_rfl, by decide⟩ rfl (by decide +kernel) (by decide +kernel) (by decide +kernel) (fun _ _ _ h => h) (Or.inl ⟨by rfl, ?he_2⟩) HW0.out ?re_2
   case he_2 =>
    intro W hW
    have x0 := hW.cell b0 (by simp)
    have x1 := hW.cell b1 (by simp)
    go_simp
    with_reducible rfl
   go_frame
   refine late_one (i := 1) rfl (by kernel_rfl) (by kernel_rfl) (fun K hK => ?_)
   have HK := uH hK
   clear hK
   refine op_enter (by rfl) 20 #[.agg #[.slice p S.1.length cap, .slice pc S.2.length ccap]] (by kernel_rfl) ((pointsIn_any S _ _ w11.drew (R11.out.set.kept HW0.out) (both_good HE.out).1).mono ?_)
   rintro e v12 ⟨va, rfl, hra, hg⟩
   have HV1 := uH hra
   have HW1 : Hid ((fun W : World => w11.grownBy W none) v12) := gT HW0.out hg
   refine ⟨_, rfl, HK.out _ _ HW1.out ?_⟩
   clear HK hg hra
   go_frame
   refine late_one (i := 3) rfl (by kernel_rfl) (by kernel_rfl) (fun K hK => ?_)
   have HK := uH hK
   clear hK
   refine op_enter (by rfl) 20 #[.agg #[.slice p2 T.1.length cap2, .slice pc2 T.2.length ccap2]] (by kernel_rfl) ((pointsIn_any T _ _ v12 (R11.out.two.kept HW1.out) (both_good HE.out).2.1).mono ?_)
   rintro e v13 ⟨vb, rfl, hrb, hg⟩
   have HV2 := uH hrb
   have HV3 := uH (HV1.out.kept hg)
   have HW2 : Hid ((fun W : World => w11.grownBy W none) v13) := gT HW1.out hg
   refine ⟨_, rfl, HK.out _ _ HW2.out ?_⟩
   clear HK hg hrb
   go_frame
   refine late_one (i := 4) rfl (by kernel_rfl) (by kernel_rfl) (fun K hK => ?_)
   have HK := uH hK
   clear hK
   refine op_enter (by rfl) 19 #[va, vb] (by kernel_rfl) ((sameLists_any va vb _ _ v13 HV3.out HV2.out).mono ?_)
   rintro e v14 ⟨rfl, hg⟩
   have HW3 : Hid ((fun W : World => w11.grownBy W none) v14) := gT HW2.out hg
   refine ⟨_, rfl, HK.out _ _ HW3.out ?_⟩
   clear HK hg
   go_frame
   refine late_done (by decide +kernel) ?_
   simp only [List.drop_succ_cons, List.drop_zero]
   go_wp2_with fail
   go_meet
   case rel => exact ⟨by rw [HB.out.1], by rw [HB.out.2.2], by rw [HB.out.2.1]; exact uH (P10.out.kept HW3.out)⟩
 case rest =>
 obtain ⟨rfl, rfl, RF1⟩ := hcut
 as_aux_lemma =>
 clear a0 a1 b0 b1 RF
 go_upto_if 108 with fail
 go_cut [22, 23, 24] (fun s22 s23 s24 wx => s22 = .int .i64 (tightZ S) ∧ s23 = .int .i64 (shadowZ S x) ∧ s24 = .int .i64 (mappedZ S x (c, ts)) ∧ Hid (RefS v6 Y1 Y2 Y3 Y4 (meetD S T) (tightD S) (shadowD S x) (mappedD S x (c, ts)) wx))
 case first => as_aux_lemma =>
  by_cases hs : setErr S = 0
  case neg =>
   have hs0 : (setErr S == 0) = false := by simpa using hs
   have HB := uH (bad_set x (c, ts) hs)
   clear hs
   go_wp2_with fail
   go_meet
   case rel =>
    obtain ⟨h1, h2, h3, h4, h5, h6⟩ := HB.out
    exact ⟨by rw [h1], by rw [h3], by rw [h5], by rw [h2, h4, h6]; exact RF1⟩
  case pos =>
   have hs0 : (setErr S == 0) = true := by simp [hs]
   have h1 : tightZ S = setErr (tightS S) := if_pos hs
   have h2 : tightD S = okSet (tightS S) := if_pos hs
   have HT := uH (And.intro h1 h2)
   have HE := uH hs
   clear hs h1 h2
   have R12 := uH (R5.out.kept RF1.out.grown)
   have a0 := R12.out.a0; have a1 := R12.out.a1
   go_upto_region 21 with (first
    | (go_at_call 21; go_must (refine (tight_ref S _ _ _ R12.out.pow R12.out.set HE.out).mono ?_; rintro e v9 ⟨hg, _, _, rfl, hM⟩; obtain ⟨⟨q7, k7, rfl, -⟩, ⟨r7, l7, rfl, -⟩⟩ := id hM; have M8 := uH hM; have K9 := uH hg; clear hM hg))
    | (go_at_call 17; go_must (refine (checkedSet_any (tightS S) _ _ _ M8.out).mono ?_; rintro e u8 ⟨hg, _, _, rfl, hM⟩; obtain ⟨⟨q8, k8, rfl, -⟩, ⟨r8, l8, rfl, -⟩⟩ := id hM; have g := gT K9.out hg; have F8 := uH (RF1.out.kept g); have P8 := uH (F8.out.put2 hM); obtain ⟨zs, zc, hz, -⟩ := F8.out.b2; obtain ⟨y0, y1, yf⟩ := cO hz; clear hM hg g hz)))
   clear a0 a1 y0 y1 yf F8 M8 K9 R12
   generalize (u8.setCell ⟨Y2, 0, none⟩ (.slice q8 (okSet (tightS S)).1.length k8)).setCell ⟨Y2, 1, none⟩ (.slice r8 (okSet (tightS S)).2.length l8) = w11 at *
   have R13 := uH (R5.out.kept P8.out.grown)
   have a0 := R13.out.a0; have a1 := R13.out.a1
   go_upto_if 120 with (go_at_call 22; go_must (refine (namesFault_any S [x] _ _ _ _ (R13.out.set.kept (gA _ _ _)) strs_one (fun s hs => by rw [List.mem_singleton.1 hs]; exact HXm.out) ⟨_, _, rfl, by simp⟩).mono ?_; rintro e v12 ⟨rfl, hg⟩; rw [names_one]; have K12 := uH (gT (gA w11 _ none) hg); have P12 := uH (P8.out.kept K12.out); clear hg))
   by_cases hn : nameErr (namesOf S.1) x = 0
   case neg =>
    have hn0 : (nameErr (namesOf S.1) x == 0) = false := by simpa using hn
    have HB := uH (bad_name (c, ts) HE.out hn)
    clear hn
    go_wp2_with fail
    go_meet
    case rel =>
     obtain ⟨h1, h2, h3, h4⟩ := HB.out
     exact ⟨by rw [HT.out.1], by rw [h1], by rw [h3], by rw [HT.out.2, h2, h4]; exact P12⟩
   case pos =>
    have hn0 : (nameErr (namesOf S.1) x == 0) = true := by simp [hn]
    have hp : placeErr S x = 0 := (place_if S x HE.out).trans hn
    have h1 : shadowZ S x = setErr (shadowS S x) := if_pos hp
    have h2 : shadowD S x = okSet (shadowS S x) := if_pos hp
    have HSh := uH (And.intro h1 h2)
    have HPl := uH hp
    clear hn h1 h2 hp a0 a1
    have R14 := uH (R5.out.kept P12.out.grown)
    have a0 := R14.out.a0; have a1 := R14.out.a1
    go_upto_if 127 with (first
     | (go_at_call 23; go_must (refine (shadow_ref S x _ _ _ R14.out.pow R14.out.set HPl.out).mono ?_; rintro e v13 ⟨hg, _, _, rfl, hM⟩; obtain ⟨⟨q9, k9, rfl, -⟩, ⟨r9, l9, rfl, -⟩⟩ := id hM; have ha := gA v13 (.cells #[.slice q9 (shadowS S x).1.length k9, .slice r9 (shadowS S x).2.length l9] 29) none; have M13 := uH (hM.kept ha); have B13 := uH (heap_alloc_new v13 (.cells #[.slice q9 (shadowS S x).1.length k9, .slice r9 (shadowS S x).2.length l9] 29)); have g := gT hg ha; have P13 := uH (P12.out.kept g); have R15 := uH (R14.out.kept g); have f0 := R15.out.f0; have f1 := R15.out.f1; clear hM hg ha g))
     | (go_at_call 24; go_must (refine (formFault_law c ts _ _ R15.out.terms).mono ?_; rintro e v14 ⟨rfl, hg⟩; have P14 := uH (P13.out.kept hg); have R16 := uH (R15.out.kept hg); have M14 := uH (M13.out.kept hg); have B14 := uH (kH B13.out hg (by simp)); have f0 := R16.out.f0; have f1 := R16.out.f1; clear hg)))
    clear a0 a1 f0 f1 P13 M13 B13 R15 R14
    generalize v13.heap.size = Z at *
    go_cut [24] (fun s24 wx => s24 = .int .i64 (aroundX S x (c, ts)) ∧ Hid (v14.grownBy wx none))
    case first => as_aux_lemma =>
     have f0 := R16.out.f0; have f1 := R16.out.f1
     by_cases hf : formErr c ts = 0
     case neg =>
      have hf0 : (formErr c ts == 0) = false := by simpa using hf
      have HA := uH (around_one HPl.out hf)
      clear hf
      go_wp2_with fail
      go_meet
      case rel => exact ⟨by rw [HA.out], uH (gR _ _)⟩
     case pos =>
      have hf0 : (formErr c ts == 0) = true := by simp [hf]
      have HA := uH (around_two (x := x) (b := (c, ts)) HPl.out)
      clear hf
      obtain ⟨z0, z1, zf⟩ := cO B14.out
      go_wp2_with (go_at_call 25; go_must (refine (formOver_any (shadowS S x).1 c ts _ _ _ _ M14.out.1 R16.out.terms).mono ?_; rintro e v15 ⟨rfl, hg⟩; rw [← HA.out]; have K15 := uH hg; clear hg))
      go_meet
      case rel => exact ⟨rfl, K15⟩
    case rest =>
    obtain ⟨rfl, K15⟩ := hcut
    have P16 := uH (P14.out.kept K15.out)
    have M17 := uH (M14.out.kept K15.out)
    have B17 := uH (kH B14.out K15.out (by simp))
    obtain ⟨z0, z1, zf⟩ := cO B17.out
    clear P14 M14 B14 R16
    go_upto_if 139 with (go_at_call 17; go_must (refine (checkedSet_any (shadowS S x) _ _ _ M17.out).mono ?_; rintro e u17 ⟨hg, _, _, rfl, hM⟩; obtain ⟨⟨q17, k17, rfl, -⟩, ⟨r17, l17, rfl, -⟩⟩ := id hM; have g := hg; have F17 := uH (P16.out.kept g); have P17 := uH (F17.out.put3 hM); obtain ⟨zs, zc, hz, -⟩ := F17.out.b3; obtain ⟨y0, y1, yf⟩ := cO hz; clear hM hg g hz))
    clear z0 z1 zf y0 y1 yf F17 M17 B17 P16
    generalize (u17.setCell ⟨Y3, 0, none⟩ (.slice q17 (okSet (shadowS S x)).1.length k17)).setCell ⟨Y3, 1, none⟩ (.slice r17 (okSet (shadowS S x)).2.length l17) = w18 at *
    by_cases hA : aroundX S x (c, ts) = 0
    case neg =>
     have hA0 : (aroundX S x (c, ts) == 0) = false := by simpa using hA
     have h1 : mappedZ S x (c, ts) = aroundX S x (c, ts) := if_neg hA
     have h2 : mappedD S x (c, ts) = ([], []) := if_neg hA
     have HMp := uH (And.intro h1 h2)
     clear hA h1 h2
     go_wp2_with fail
     go_meet
     case rel => exact ⟨by rw [HT.out.1], by rw [HSh.out.1], by rw [HMp.out.1], by rw [HT.out.2, HSh.out.2, HMp.out.2]; exact P17⟩
    case pos =>
     have hA0 : (aroundX S x (c, ts) == 0) = true := by simp [hA]
     have h1 : mappedZ S x (c, ts) = setErr (mappedS S x (c, ts)) := if_pos hA
     have h2 : mappedD S x (c, ts) = okSet (mappedS S x (c, ts)) := if_pos hA
     have HMp := uH (And.intro h1 h2)
     have HAr := uH hA
     clear hA h1 h2
     have R18 := uH (R5.out.kept P17.out.grown)
     have a0 := R18.out.a0; have a1 := R18.out.a1; have f0 := R18.out.f0; have f1 := R18.out.f1
     go_wp2_with (first
      | (go_at_call 26; go_must (refine (mapped_ref S x (c, ts) _ _ _ _ R18.out.set R18.out.terms HAr.out).mono ?_; rintro e v19 ⟨hg, _, _, rfl, hM⟩; obtain ⟨⟨q20, k20, rfl, -⟩, ⟨r20, l20, rfl, -⟩⟩ := id hM; have M19 := uH hM; have K19 := uH hg; clear hM hg))
      | (go_at_call 17; go_must (refine (checkedSet_any (mappedS S x (c, ts)) _ _ _ M19.out).mono ?_; rintro e u19 ⟨hg, _, _, rfl, hM⟩; obtain ⟨⟨q19, k19, rfl, -⟩, ⟨r19, l19, rfl, -⟩⟩ := id hM; have g := gT K19.out hg; have F19 := uH (P17.out.kept g); have P19 := uH (F19.out.put4 hM); obtain ⟨zs, zc, hz, -⟩ := F19.out.b4; obtain ⟨y0, y1, yf⟩ := cO hz; clear hM hg g hz)))
     go_meet
     case rel => exact ⟨by rw [HT.out.1], by rw [HSh.out.1], by rw [HMp.out.1], by rw [HT.out.2, HSh.out.2, HMp.out.2]; exact P19⟩
 case rest =>
 obtain ⟨rfl, rfl, rfl, RF2⟩ := hcut
 as_aux_lemma =>
 clear RF1 R5 HP
 obtain ⟨i0, j0, g0, o0, ⟨d0, e0⟩, hx⟩ := box_cells (B1.out.kept RF2.out.grown)
 have S0 := uH hx
 clear hx
 obtain ⟨i1, j1, g1, o1, ⟨d1, e1⟩, hx⟩ := box_cells (B3.out.kept RF2.out.grown)
 have S1 := uH hx
 clear hx
 obtain ⟨i2, j2, g2, o2, ⟨d2, e2⟩, hx⟩ := box_cells (B4.out.kept RF2.out.grown)
 have S2 := uH hx
 clear hx
 obtain ⟨i3, j3, g3, o3, ⟨d3, e3⟩, hx⟩ := box_cells (B5.out.kept RF2.out.grown)
 have S3 := uH hx
 clear hx
 obtain ⟨i4, j4, g4, o4, ⟨d4, e4⟩, hx⟩ := box_cells (RF2.out.b1)
 have S4 := uH hx
 clear hx
 obtain ⟨i5, j5, g5, o5, ⟨d5, e5⟩, hx⟩ := box_cells (RF2.out.b2)
 have S5 := uH hx
 clear hx
 obtain ⟨i6, j6, g6, o6, ⟨d6, e6⟩, hx⟩ := box_cells (RF2.out.b3)
 have S6 := uH hx
 clear hx
 obtain ⟨i7, j7, g7, o7, ⟨d7, e7⟩, hx⟩ := box_cells (RF2.out.b4)
 have S7 := uH hx
 clear hx
 have K30 := uH (gT G5.out RF2.out.grown)
 clear RF2 B1 B3 B4 B5 G5
 generalize meetD S T = DM at *
 generalize tightD S = DT at *
 generalize shadowD S x = DS at *
 generalize mappedD S x (c, ts) = DP at *
 generalize meetZ S T = zM at *
 generalize tightZ S = zT at *
 generalize shadowZ S x = zS at *
 generalize mappedZ S x (c, ts) = zP at *
 generalize sameB S T = sB at *
 generalize bothErr S T = eB at *
 have T1 := ()
 have T2 := ()
 have T3 := ()
 have T4 := ()
 go_wp2_with (first
  | (go_at_call 27; go_must (first
    | (clear T1; refine (sameSet_any DM DM (.slice i0 DM.1.length j0) (.slice g0 DM.2.length o0) (.slice i4 DM.1.length j4) (.slice g4 DM.2.length o4) _ S0.out S4.out).mono ?_; rintro e y1 ⟨rfl, hg⟩; rw [eqSet_self]; have K31 := uH (gT K30.out hg); have d1 := hg.cell d1 (by simp); have e1 := hg.cell e1 (by simp); have S1 := uH (S1.out.kept hg); have d2 := hg.cell d2 (by simp); have e2 := hg.cell e2 (by simp); have S2 := uH (S2.out.kept hg); have d3 := hg.cell d3 (by simp); have e3 := hg.cell e3 (by simp); have S3 := uH (S3.out.kept hg); have d5 := hg.cell d5 (by simp); have e5 := hg.cell e5 (by simp); have S5 := uH (S5.out.kept hg); have d6 := hg.cell d6 (by simp); have e6 := hg.cell e6 (by simp); have S6 := uH (S6.out.kept hg); have d7 := hg.cell d7 (by simp); have e7 := hg.cell e7 (by simp); have S7 := uH (S7.out.kept hg); clear hg)
    | (clear T2; refine (sameSet_any DT DT (.slice i1 DT.1.length j1) (.slice g1 DT.2.length o1) (.slice i5 DT.1.length j5) (.slice g5 DT.2.length o5) _ S1.out S5.out).mono ?_; rintro e y2 ⟨rfl, hg⟩; rw [eqSet_self]; have K32 := uH (gT K31.out hg); have d2 := hg.cell d2 (by simp); have e2 := hg.cell e2 (by simp); have S2 := uH (S2.out.kept hg); have d3 := hg.cell d3 (by simp); have e3 := hg.cell e3 (by simp); have S3 := uH (S3.out.kept hg); have d6 := hg.cell d6 (by simp); have e6 := hg.cell e6 (by simp); have S6 := uH (S6.out.kept hg); have d7 := hg.cell d7 (by simp); have e7 := hg.cell e7 (by simp); have S7 := uH (S7.out.kept hg); clear hg)
    | (clear T3; refine (sameSet_any DS DS (.slice i2 DS.1.length j2) (.slice g2 DS.2.length o2) (.slice i6 DS.1.length j6) (.slice g6 DS.2.length o6) _ S2.out S6.out).mono ?_; rintro e y3 ⟨rfl, hg⟩; rw [eqSet_self]; have K33 := uH (gT K32.out hg); have d3 := hg.cell d3 (by simp); have e3 := hg.cell e3 (by simp); have S3 := uH (S3.out.kept hg); have d7 := hg.cell d7 (by simp); have e7 := hg.cell e7 (by simp); have S7 := uH (S7.out.kept hg); clear hg)
    | (clear T4; refine (sameSet_any DP DP (.slice i3 DP.1.length j3) (.slice g3 DP.2.length o3) (.slice i7 DP.1.length j7) (.slice g7 DP.2.length o7) _ S3.out S7.out).mono ?_; rintro e y4 ⟨rfl, hg⟩; rw [eqSet_self]; have K34 := uH (gT K33.out hg); clear hg)))
  | (go_at_call 28; go_must (refine (counted_any _).mono ?_; rintro e y5 ⟨rfl, hg⟩; have K35 := uH (gT K34.out hg); clear hg)))
 go_ret
 exact ⟨rfl, K35.out⟩
end Go.Proofs.YtgeklmigfhhpfaaGreatDoor
