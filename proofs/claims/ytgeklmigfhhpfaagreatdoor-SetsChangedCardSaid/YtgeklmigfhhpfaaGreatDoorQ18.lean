/-
 What a set without an error tells of its sides. Sets of the same variables: rows and conditions side by side. affine.Tight. The conditions of a space, the ends of a side ahead of them. The conditions of a space, the ends of a side ahead of them: the walk. Three lists of rows that a call collects at once.
-/
import Derived.Deep.DeepMust
import Derived.Test.YtgeklmigfhhpfaaGreatDoorQ09
import Derived.Test.YtgeklmigfhhpfaaGreatDoorQ10
import Derived.Test.YtgeklmigfhhpfaaGreatDoorQ15
import Derived.Test.YtgeklmigfhhpfaaGreatDoorQ16
import Derived.Test.YtgeklmigfhhpfaaGreatDoorQ17
namespace Go.Proofs.YtgeklmigfhhpfaaGreatDoor
open Go.RowKit
theorem sides_ok : ∀ (seen : List ByteArray) (l : List SideD), sidesErr seen l = 0 → (∀ s ∈ l, (1 ≤ s.1.size ∧ s.1.size ≤ 40) ∧ (-1000000 ≤ s.2.1 ∧ s.2.1 ≤ 1000000) ∧ (-1000000 ≤ s.2.2 ∧ s.2.2 ≤ 1000000) ∧ s.1 ∉ seen) ∧ Apart l
 | _, [], _ => ⟨(fun s h => by cases h), List.Pairwise.nil⟩
 | seen, s :: r, h => by
   unfold sidesErr at h
   by_cases hn : nameB s.1 = true
   · rw [if_pos hn] at h
     by_cases hc : containsB seen s.1 = true
     · rw [if_pos hc] at h; cases h
     · rw [if_neg hc] at h
       by_cases hb : sideBad s.2.1 s.2.2 = true
       · rw [if_pos hb] at h; cases h
       · rw [if_neg hb] at h
         obtain ⟨h1, h2⟩ := sides_ok (seen ++ [s.1]) r h
         have hs : s.1 ∉ seen := fun hm => hc (by
          unfold containsB
          exact List.any_eq_true.2 ⟨s.1, hm, by simp⟩)
         have hnm : 1 ≤ s.1.size ∧ s.1.size ≤ 40 := by
          simp only [nameB, Bool.and_eq_true, decide_eq_true_eq] at hn
          exact hn.1
         have hbd : (-1000000 ≤ s.2.1 ∧ s.2.1 ≤ 1000000) ∧ (-1000000 ≤ s.2.2 ∧ s.2.2 ≤ 1000000) := by
          simp [sideBad, inB] at hb
          omega
         refine ⟨fun x hx => ?_, List.pairwise_cons.2 ⟨fun x hx e => ?_, h2⟩⟩
         · rcases List.mem_cons.1 hx with rfl | hx
           · exact ⟨hnm, hbd.1, hbd.2, hs⟩
           · obtain ⟨a, b, c, d⟩ := h1 x hx
             exact ⟨a, b, c, fun hm => d (by simp [hm])⟩
         · exact (h1 x hx).2.2.2 (by rw [← e]; simp)
   · rw [if_neg hn] at h; cases h
theorem set_sides {S : List SideD × List CondD} (h : setErr S = 0) : Apart S.1 ∧ (∀ s ∈ S.1, s.1 ≠ ByteArray.empty) ∧ (∀ s ∈ S.1, goodSide s) ∧ ∀ s ∈ S.1, (-1000000 ≤ s.2.1 ∧ s.2.1 ≤ 1000000) ∧ (-1000000 ≤ s.2.2 ∧ s.2.2 ≤ 1000000) := by
 obtain ⟨h1, h2⟩ := sides_ok [] S.1 (set_good h).2.1
 refine ⟨h2, fun s hs e => ?_, fun s hs => ?_, fun s hs => ⟨(h1 s hs).2.1, (h1 s hs).2.2.1⟩⟩
 · have := (h1 s hs).1.1
   rw [e] at this
   exact absurd this (by decide)
 · obtain ⟨a, b, c, _⟩ := h1 s hs
   unfold goodSide small
   omega
end Go.Proofs.YtgeklmigfhhpfaaGreatDoor
namespace Go.Proofs.YtgeklmigfhhpfaaGreatDoor
open Go.RowKit
theorem findIdx_names {n : ByteArray} : ∀ {l m : List SideD}, namesOf l = namesOf m → l.findIdx? (sameName n) = m.findIdx? (sameName n)
 | [], [], _ => rfl
 | [], _ :: _, h => by simp [namesOf] at h
 | _ :: _, [], h => by simp [namesOf] at h
 | a :: l, b :: m, h => by
   simp only [namesOf, List.map_cons, List.cons.injEq] at h
   have ih := findIdx_names (n := n) (l := l) (m := m) h.2
   have e : sameName n a = sameName n b := by unfold sameName; rw [h.1]
   rw [List.findIdx?_cons, List.findIdx?_cons, e, ih]
theorem rowX_names {l m : List SideD} (h : namesOf l = namesOf m) (cs : List Int) (n : ByteArray) : rowX l cs n = rowX m cs n := by
 unfold rowX
 rw [findIdx_names h]
theorem names_len {l m : List SideD} (h : namesOf l = namesOf m) : l.length = m.length := by
 have := congrArg List.length h
 simpa [namesOf] using this
theorem rowF_names {l m : List SideD} (h : namesOf l = namesOf m) {r : RowD} {f : CondD} (k : RowF l r f) : RowF m r f :=
 ⟨k.1.trans (names_len h), k.2.num, k.2.ups, fun n z => by rw [k.2.mem n z, rowX_names h]⟩
theorem formX_cong {X Y : ByteArray → Int} {c : Int} {f : CondD} (h : FormX X c f) (he : ∀ n, n ≠ ByteArray.empty → X n = Y n) : FormX Y c f := by
 refine ⟨h.num, h.ups, fun n z => ?_⟩
 rw [h.mem n z]
 constructor
 · rintro ⟨a, b, d⟩; exact ⟨a, b, by rw [← he n a]; exact d⟩
 · rintro ⟨a, b, d⟩; exact ⟨a, b, by rw [he n a]; exact d⟩
theorem rowF_coefs {l : List SideD} {c : Int} {ts : List (ByteArray × Int)} (hf : formErr c ts = 0) (hin : termsIn (namesOf l) ts = true) : RowF l (c, coefsOf l ts) (c, ts) := by
 refine ⟨coefs_length l ts, formX_cong (form_formX hf) fun n _ => ?_⟩
 refine (rowX_coefs hf fun t ht => ?_).symm
 rw [sameName_any]
 exact List.all_eq_true.1 hin t ht
theorem twin_map {α β γ : Type} {R : α → β → Prop} {f : γ → α} {g : γ → β} : ∀ {l : List γ}, (∀ x ∈ l, R (f x) (g x)) → Twin R (l.map f) (l.map g)
 | [], _ => .nil
 | a :: l, h => .cons (h a (by simp)) (twin_map fun x hx => h x (by simp [hx]))
theorem rows_twin {S : List SideD × List CondD} (h : setErr S = 0) : Twin (RowF S.1) (rowsOf S) S.2 := by
 have h4 := (set_good h).2.2.2
 have h5 := twin_map (R := RowF S.1) (f := fun f : CondD => (f.1, coefsOf S.1 f.2)) (g := id) (l := S.2) fun f hf => rowF_coefs (conds_good h4 f hf).1 (conds_good h4 f hf).2
 simpa [rowsOf] using h5
theorem rowF_uniq {l : List SideD} {rs : List RowD} {fl gl : List CondD} (h : Twin (RowF l) rs fl) (k : Twin (RowF l) rs gl) : fl = gl :=
 h.eq k fun _ _ _ _ hb hc => formX_eq hb.2 hc.2 fun _ _ => rfl
def meetL (l m : List SideD) : List SideD := (l.zip m).map fun p => (p.1.1, max p.1.2.1 p.2.2.1, min p.1.2.2 p.2.2.2)
theorem meet_names {l m : List SideD} (h : l.length = m.length) : namesOf (meetL l m) = namesOf l := by
 unfold namesOf meetL
 rw [List.map_map]
 show (l.zip m).map (fun p => p.1.1) = _
 rw [show (fun p : SideD × SideD => p.1.1) = (fun s : SideD => s.1) ∘ Prod.fst from rfl, ← List.map_map, List.map_fst_zip (by omega)]
theorem meet_twin {S T : List SideD × List CondD} (hS : setErr S = 0) (hT : setErr T = 0) (hn : namesOf S.1 = namesOf T.1) : Twin (RowF (meetL S.1 T.1)) (rowsOf S ++ rowsOf T) (S.2 ++ T.2) := by
 have h1 := meet_names (names_len hn)
 exact ((rows_twin hS).mono fun _ _ _ _ h => rowF_names h1.symm h).append ((rows_twin hT).mono fun _ _ _ _ h => rowF_names (hn.symm.trans h1.symm) h)
end Go.Proofs.YtgeklmigfhhpfaaGreatDoor
namespace Go.Proofs.YtgeklmigfhhpfaaGreatDoor
open Go.RowKit
attribute [local go_sem ↓] Go.wp_at_zero Go.wp_at_succ
def SetRes (S : List SideD × List CondD) (w : World) (e : Ending) (w' : World) : Prop :=
 w.grownBy w' none ∧ (setErr S ≠ 0 → e = .returned (.tuple #[.agg #[.slice none 0 0, .slice none 0 0], .int .i64 (setErr S)])) ∧ (setErr S = 0 → ∃ sv cv, e = .returned (.tuple #[.agg #[sv, cv], .int .i64 0]) ∧ SetAt w' sv cv S)
def ErrRes (z : Int) (w : World) (e : Ending) (w' : World) : Prop :=
 w.grownBy w' none ∧ e = .returned (.tuple #[.agg #[.slice none 0 0, .slice none 0 0], .int .i64 z])
def tightC (l : List CondD) : List CondD := mergeAll (l.filterMap tightF)
structure TgB (w0 wr : World) (X R : Nat) (sv kv : Value) : Prop where
 grown : w0.grownBy wr none
 newX : w0.heap.size ≤ X
 newR : w0.heap.size ≤ R
 ne : R ≠ X
 box : wr.heap[X]? = some (.cells #[sv, kv] 81 (0, 0))
 res : wr.heap[R]? = some (.cells #[.slice none 0 0, .slice none 0 0] 29 (0, 0))
theorem TgB.kept {w0 wr w' : World} {X R : Nat} {sv kv : Value} (h : TgB w0 wr X R sv kv) (hg : wr.grownBy w' none) : TgB w0 w' X R sv kv := ⟨gT h.grown hg, h.newX, h.newR, h.ne, kH h.box hg (by simp), kH h.res hg (by simp)⟩
theorem TgB.put {w0 wr : World} {X R : Nat} {sv kv : Value} (h : TgB w0 wr X R sv kv) (z : Value) : TgB w0 (wr.setCell ⟨X, 1, none⟩ z) X R sv z := by
 have g2 := gS wr X 1 z
 refine ⟨gO h.grown g2 (fun k hk => by cases hk; exact h.newX), h.newX, h.newR, h.ne, ?_, kH h.res g2 (by simp; exact fun e => h.ne e.symm)⟩
 show (wr.heap.modify X _)[X]? = _
 rw [Array.getElem?_modify, if_pos rfl, h.box]
 simp
theorem TgB.done {w0 wr : World} {X R : Nat} {sv kv : Value} (h : TgB w0 wr X R sv kv) (a b : Value) :
  w0.grownBy ((wr.setCell ⟨R, 0, none⟩ a).setCell ⟨R, 1, none⟩ b) none ∧ wr.grownBy ((wr.setCell ⟨R, 0, none⟩ a).setCell ⟨R, 1, none⟩ b) (some R) ∧ ((wr.setCell ⟨R, 0, none⟩ a).setCell ⟨R, 1, none⟩ b).heap[R]? = some (.cells #[a, b] 29 (0, 0)) := by
 obtain ⟨h1, h2⟩ := two_set h.res a b
 exact ⟨gO h.grown h2 (fun k hk => by cases hk; exact h.newR), h2, h1⟩
theorem mid_of {x : Int} (h : -1000 ≤ x ∧ x ≤ 1000) : mid x := by unfold mid; omega
theorem rows_mid {S : List SideD × List CondD} (h : setErr S = 0) : (∀ r ∈ rowsOf S, r.2.length = S.1.length) ∧ ∀ r ∈ rowsOf S, (-1000000000000 ≤ r.1 ∧ r.1 ≤ 1000000000000) ∧ ∀ c ∈ r.2, mid c :=
 ⟨fun r hr => (rows_good h r hr).1, fun r hr => ⟨by have := (rows_good h r hr).2.1; omega, fun c hc => mid_of ((rows_good h r hr).2.2 c hc)⟩⟩
theorem small_row {n : Nat} {r : RowD} (h : (-1000000000000 ≤ r.1 ∧ r.1 ≤ 1000000000000) ∧ (r.2.length = n ∧ ∀ c ∈ r.2, mid c)) : small r.1 ∧ ∀ c ∈ r.2, small c :=
 ⟨by unfold small; omega, fun c hc => by have := h.2.2 c hc; unfold mid at this; unfold small; omega⟩
theorem rows_len {S : List SideD × List CondD} (h : setErr S = 0) : (rowsOf S).length ≤ 60 := by
 have := (set_good h).2.2.1
 simpa [rowsOf] using this
theorem TgB.start {w w2 : World} {a b sv kv : Value} (h : ((w.alloc (.cells #[a, b] 29)).alloc (.cells #[.slice none 0 0, .slice none 0 0] 29)).grownBy w2 none) : TgB w (w2.alloc (.cells #[sv, kv] 81)) w2.heap.size (w.heap.size + 1) sv kv := by
 have hs := h.size
 simp at hs
 have ga := gA w2 (.cells #[sv, kv] 81) none
 refine ⟨gT (gA _ _ _) (gT (gA _ _ _) (gT h ga)), by omega, by omega, by omega, heap_alloc_new _ _, kH (kH ?_ h (by simp)) ga (by simp)⟩
 show ((w.heap.push _).push _)[w.heap.size + 1]? = _
 simp only [Array.getElem?_push, Array.size_push]
 rw [if_pos trivial]
set_option maxRecDepth 100000 in
set_option maxHeartbeats 8000000 in
theorem tight_set (S : List SideD × List CondD) (sv cv : Value) (w : World) (hS : SetAt w sv cv S) (hE : setErr S = 0) :
  Calls Tryz.prog 11 #[.agg #[sv, cv]] w (SetRes (S.1, tightC S.2) w) := by
 obtain ⟨ps, scap, rfl, _⟩ := id hS.1
 obtain ⟨pc, ccap, rfl, _⟩ := id hS.2
 have HS := uH hS
 have HE := uH hE
 have hn8 := (set_good hE).1
 have hn60 := rows_len hE
 have HRm := uH (rows_mid hE)
 have HGd := uH (tight_good (rows_mid hE).1 (rows_mid hE).2)
 have HSd := uH (set_sides hE)
 have HTw := uH (tight_twin (set_sides hE).1 (set_sides hE).2.1 (rows_twin hE))
 clear hS hE
 have hmm := HGd.out.1
 by_cases hF : setErr (S.1, tightC S.2) = 0
 · have HF := uH hF
   clear hF
   go_enter Tryz.func11, Tryz.ntmps11
   go_upto_region 5 with (first
    | (go_at_call 49; go_must (refine (spaceOf_room S _ _ _ (HS.out.kept (gT (gA _ _ _) (gA _ _ _)))).mono ?_; rintro e w2 ⟨hg, _, hok⟩; obtain ⟨kv, cvs, rfl, hk⟩ := hok HE.out; obtain ⟨pk, kcap, rfl⟩ := own_form hk.row; have HB := uH (TgB.start (sv := .slice ps S.1.length scap) (kv := .slice pk (rowsOf S).length kcap) hg); have HK := uH ((hk.room (n := S.1.length) (by omega) (by omega) (rows_good HE.out)).kept (gA w2 (.cells #[.slice ps S.1.length scap, .slice pk (rowsOf S).length kcap] 81) none)); clear hg hok hk; obtain ⟨x0, x1, _⟩ := cO HB.out.box))
    | (go_at_call 50; go_must (refine (tight_any S.1.length (rowsOf S) _ _ HK.out HRm.out.1 (by omega) (by omega) HRm.out.2).mono ?_; rintro e w3 ⟨kv3, rfl, hr3, hg3⟩; obtain ⟨pr, rcap, rfl, hri⟩ := id hr3; have HB3 := uH (HB.out.kept hg3); have HR3 := uH hr3; clear hg3 hr3 hri x0 x1; obtain ⟨y0, y1, yf⟩ := cO HB3.out.box)))
   have HB4 := uH (HB3.out.put (.slice pr (mergeAll ((rowsOf S).filterMap tightR)).length rcap))
   have HR4 := uH (HR3.out.over (slBox_two HB3.out.box) (gS w3 w2.heap.size 1 (.slice pr (mergeAll ((rowsOf S).filterMap tightR)).length rcap)))
   have HSz4 : Hid (w.heap.size + 1 < (w3.setCell ⟨w2.heap.size, 1, none⟩ (.slice pr (mergeAll ((rowsOf S).filterMap tightR)).length rcap)).heap.size) := by
    have h := (Array.getElem?_eq_some_iff.1 HB4.out.res).1
    exact h
   clear y0 y1 yf
   generalize w3.setCell ⟨w2.heap.size, 1, none⟩ (.slice pr (mergeAll ((rowsOf S).filterMap tightR)).length rcap) = w4 at *
   obtain ⟨z0, z1, zf⟩ := cO HB4.out.box
   go_wp2_with (go_at_call 45; go_must (refine (spaceSet_any S.1 (mergeAll ((rowsOf S).filterMap tightR)) _ _ _ (HS.out.1.kept HB4.out.grown) HR4.out.rows (fun r hr => (HGd.out.2 r hr).2.1) (by omega) (by omega) HSd.out.1 HSd.out.2.1 HSd.out.2.2.1 (fun r hr => small_row (HGd.out.2 r hr))).mono ?_; rintro e w5 ⟨fl, htw, hg5, hbad, hok⟩; obtain rfl := rowF_uniq htw HTw.out; obtain ⟨sv', cv', rfl, hset⟩ := hok HF.out; obtain ⟨⟨p6, c6, rfl, _⟩, ⟨p7, c7, rfl, _⟩⟩ := id (hset none _ (fun k hk => by cases hk) (gR _ _)); have HB5 := uH (HB4.out.kept hg5); have HOk := uH hset; clear htw hg5 hbad hok hset; obtain ⟨r0, r1, rf⟩ := cO HB5.out.res))
   obtain ⟨D1, D2, D3⟩ := HB5.out.done (.slice p6 S.1.length c6) (.slice p7 (tightC S.2).length c7)
   exact bodyPost_ret (results_set rfl _ _ (w.heap.size + 1) _ _ _ _ rfl D3) rfl ⟨D1, fun h => absurd HF.out h, fun _ => ⟨_, _, rfl, HOk.out _ _ (fun k hk => by cases hk; have := HB4.out.newR; have := HSz4.out; omega) D2⟩⟩
 · have HF := uH hF
   clear hF
   go_enter Tryz.func11, Tryz.ntmps11
   go_upto_region 5 with (first
    | (go_at_call 49; go_must (refine (spaceOf_room S _ _ _ (HS.out.kept (gT (gA _ _ _) (gA _ _ _)))).mono ?_; rintro e w2 ⟨hg, _, hok⟩; obtain ⟨kv, cvs, rfl, hk⟩ := hok HE.out; obtain ⟨pk, kcap, rfl⟩ := own_form hk.row; have HB := uH (TgB.start (sv := .slice ps S.1.length scap) (kv := .slice pk (rowsOf S).length kcap) hg); have HK := uH ((hk.room (n := S.1.length) (by omega) (by omega) (rows_good HE.out)).kept (gA w2 (.cells #[.slice ps S.1.length scap, .slice pk (rowsOf S).length kcap] 81) none)); clear hg hok hk; obtain ⟨x0, x1, _⟩ := cO HB.out.box))
    | (go_at_call 50; go_must (refine (tight_any S.1.length (rowsOf S) _ _ HK.out HRm.out.1 (by omega) (by omega) HRm.out.2).mono ?_; rintro e w3 ⟨kv3, rfl, hr3, hg3⟩; obtain ⟨pr, rcap, rfl, hri⟩ := id hr3; have HB3 := uH (HB.out.kept hg3); have HR3 := uH hr3; clear hg3 hr3 hri x0 x1; obtain ⟨y0, y1, yf⟩ := cO HB3.out.box)))
   have HB4 := uH (HB3.out.put (.slice pr (mergeAll ((rowsOf S).filterMap tightR)).length rcap))
   have HR4 := uH (HR3.out.over (slBox_two HB3.out.box) (gS w3 w2.heap.size 1 (.slice pr (mergeAll ((rowsOf S).filterMap tightR)).length rcap)))
   have HSz4 : Hid (w.heap.size + 1 < (w3.setCell ⟨w2.heap.size, 1, none⟩ (.slice pr (mergeAll ((rowsOf S).filterMap tightR)).length rcap)).heap.size) := by
    have h := (Array.getElem?_eq_some_iff.1 HB4.out.res).1
    exact h
   clear y0 y1 yf
   generalize w3.setCell ⟨w2.heap.size, 1, none⟩ (.slice pr (mergeAll ((rowsOf S).filterMap tightR)).length rcap) = w4 at *
   obtain ⟨z0, z1, zf⟩ := cO HB4.out.box
   go_wp2_with (go_at_call 45; go_must (refine (spaceSet_any S.1 (mergeAll ((rowsOf S).filterMap tightR)) _ _ _ (HS.out.1.kept HB4.out.grown) HR4.out.rows (fun r hr => (HGd.out.2 r hr).2.1) (by omega) (by omega) HSd.out.1 HSd.out.2.1 HSd.out.2.2.1 (fun r hr => small_row (HGd.out.2 r hr))).mono ?_; rintro e w5 ⟨fl, htw, hg5, hbad, hok⟩; obtain rfl := rowF_uniq htw HTw.out; obtain rfl := hbad HF.out; have HB5 := uH (HB4.out.kept hg5); clear htw hg5 hbad hok; obtain ⟨r0, r1, rf⟩ := cO HB5.out.res))
   obtain ⟨D1, D2, D3⟩ := HB5.out.done (.slice none 0 0) (.slice none 0 0)
   exact bodyPost_ret (results_set rfl _ _ (w.heap.size + 1) _ _ _ _ rfl D3) rfl ⟨D1, fun _ => rfl, fun h => absurd h HF.out⟩
set_option maxRecDepth 100000 in
set_option maxHeartbeats 4000000 in
theorem tight_err (S : List SideD × List CondD) (sv cv : Value) (w : World) (hS : SetAt w sv cv S) (hE : setErr S ≠ 0) :
  Calls Tryz.prog 11 #[.agg #[sv, cv]] w (ErrRes (setErr S) w) := by
 obtain ⟨ps, scap, rfl, _⟩ := id hS.1
 obtain ⟨pc, ccap, rfl, _⟩ := id hS.2
 have HS := uH hS
 have hE0 : (setErr S != 0) = true := by simpa using hE
 have HE := uH hE
 clear hS hE
 go_enter Tryz.func11, Tryz.ntmps11
 go_wp2_with (go_at_call 49; go_must (refine (spaceOf_room S _ _ _ (HS.out.kept (gT (gA _ _ _) (gA _ _ _)))).mono ?_; rintro e w2 ⟨hg, hno, _⟩; obtain rfl := hno HE.out; have HB := uH (TgB.start (sv := .slice none 0 0) (kv := .slice none 0 0) hg); clear hg hno; obtain ⟨x0, x1, _⟩ := cO HB.out.box; obtain ⟨r0, r1, rf⟩ := cO HB.out.res))
 obtain ⟨D1, D2, D3⟩ := HB.out.done (.slice none 0 0) (.slice none 0 0)
 exact bodyPost_ret (results_set rfl _ _ (w.heap.size + 1) _ _ _ _ rfl D3) rfl ⟨D1, rfl⟩
end Go.Proofs.YtgeklmigfhhpfaaGreatDoor
namespace Go.Proofs.YtgeklmigfhhpfaaGreatDoor
open Go.RowKit
attribute [local go_sem ↓] Go.wp_at_zero Go.wp_at_succ
theorem rowsIn_cells {w : World} {b off cap : Nat} {l : List RowD} {K : Prop} (h : RowsIn w (some ⟨b, off, none⟩) cap l K) : ∃ cvs : List Value, cvs.length = l.length ∧ (∀ (j : Nat) (u : Value), ((l.zip cvs).flatMap rowCells)[j]? = some u → w.cell? ⟨b, off + j, none⟩ = some u) ∧
  ∀ (j : Nat) (q : RowD) (cv : Value), l[j]? = some q → cvs[j]? = some cv → ∃ p cc, cv = .slice p q.2.length cc ∧ (K → q.2.length ≤ cc) ∧ IntsAt w cv q.2 := by
 have hex : ∀ j : Nat, j < l.length → ∃ cv : Value, ∀ q, l[j]? = some q → w.cell? ⟨b, off + j * 2, none⟩ = some (.int .i64 q.1) ∧ w.cell? ⟨b, off + j * 2 + 1, none⟩ = some cv ∧ ∃ p cc, cv = .slice p q.2.length cc ∧ (K → q.2.length ≤ cc) ∧ IntsAt w cv q.2 := by
  intro j hj
  have h0 := List.getElem?_eq_getElem hj
  obtain ⟨b', off', pc, cc, e, h1, h2, h3, h4⟩ := h.cells j _ h0
  obtain ⟨rfl, rfl, _⟩ := Addr.mk.inj (Option.some.inj e)
  refine ⟨.slice pc (l[j]).2.length cc, fun q hq => ?_⟩
  rw [h0] at hq
  obtain rfl := Option.some.inj hq
  exact ⟨h1, h2, pc, cc, rfl, h3, h4⟩
 classical
 let f : Nat → Value := fun j => if hj : j < l.length then (hex j hj).choose else undef
 have hf : ∀ j (hj : j < l.length) q, l[j]? = some q → w.cell? ⟨b, off + j * 2, none⟩ = some (.int .i64 q.1) ∧ w.cell? ⟨b, off + j * 2 + 1, none⟩ = some (f j) ∧ ∃ p cc, f j = .slice p q.2.length cc ∧ (K → q.2.length ≤ cc) ∧ IntsAt w (f j) q.2 := by
  intro j hj q hq
  have e : f j = (hex j hj).choose := by simp only [f]; rw [dif_pos hj]
  rw [e]
  exact (hex j hj).choose_spec q hq
 refine ⟨(List.range l.length).map f, by simp, fun j u hj => ?_, fun j q cv h1 h2 => ?_⟩
 · obtain ⟨a, h1, h2⟩ := flat_inv (f := rowCells) (k := 2) (fun _ => rfl) hj
   rw [List.getElem?_zip_eq_some] at h1
   obtain ⟨h3, h4⟩ := h1
   have hjl := (List.getElem?_eq_some_iff.1 h3).1
   rw [List.getElem?_map, List.getElem?_range hjl] at h4
   simp at h4
   obtain ⟨c1, c2, _⟩ := hf _ hjl _ h3
   have hm : j % 2 = 0 ∨ j % 2 = 1 := by omega
   rcases hm with e | e
   · rw [e] at h2
     obtain rfl := Option.some.inj h2
     rw [show off + j = off + j / 2 * 2 by omega]
     exact c1
   · rw [e] at h2
     obtain rfl := Option.some.inj h2
     rw [show off + j = off + j / 2 * 2 + 1 by omega, ← h4]
     exact c2
 · have hjl := (List.getElem?_eq_some_iff.1 h1).1
   rw [List.getElem?_map, List.getElem?_range hjl] at h2
   simp at h2
   subst h2
   exact (hf j hjl q h1).2.2
theorem rowsIn_part {w : World} {v : Value} {l : List RowD} {K : Prop} (h : RowLC w v l K) : ∃ cvs : List Value, cvs.length = l.length ∧ PartAt w v 2 (l.length, (l.zip cvs).flatMap rowCells) ∧
  ∀ (j : Nat) (q : RowD) (cv : Value), l[j]? = some q → cvs[j]? = some cv → ∃ p cc, cv = .slice p q.2.length cc ∧ (K → q.2.length ≤ cc) ∧ IntsAt w cv q.2 := by
 obtain ⟨p, cap, rfl, h⟩ := h
 have hone : ∀ cvs : List Value, (∀ (j : Nat) (q : RowD) (cv : Value), l[j]? = some q → cvs[j]? = some cv → ∃ p cc, cv = .slice p q.2.length cc ∧ (K → q.2.length ≤ cc) ∧ IntsAt w cv q.2) → ∀ u ∈ (l.zip cvs).flatMap rowCells, u.oneCell' = true := by
  intro cvs hc u hu
  obtain ⟨⟨q, cv⟩, h1, h2⟩ := List.mem_flatMap.1 hu
  obtain ⟨j, hj⟩ := List.mem_iff_getElem?.1 h1
  rw [List.getElem?_zip_eq_some] at hj
  obtain ⟨p, cc, rfl, _⟩ := hc j q cv hj.1 hj.2
  simp [rowCells] at h2
  rcases h2 with rfl | rfl <;> rfl
 cases hl : l with
 | nil =>
   subst hl
   refine ⟨[], rfl, ⟨p, cap, rfl, by simp, by simp, by simp, fun e => ⟨rfl, h.nil e⟩, fun a ha j u hj => by simp at hj, fun u hu => by simp at hu⟩, fun j q cv h1 _ => by simp at h1⟩
 | cons r rs =>
   have h0 : l[0]? = some r := by rw [hl]; rfl
   obtain ⟨b, off, _, _, rfl, _⟩ := h.cells 0 r h0
   rw [← hl]
   obtain ⟨cvs, h1, h2, h3⟩ := rowsIn_cells h
   refine ⟨cvs, h1, ⟨_, cap, rfl, h.len, h.room, ?_, fun e => (by cases e), fun a ha j u hj => ?_, hone cvs h3⟩, h3⟩
   · simp only
     rw [flat_length (f := rowCells) (k := 2) (fun _ => rfl), List.length_zip, h1, Nat.min_self]
   · obtain rfl := Option.some.inj ha
     have hadd : (⟨b, off, none⟩ : Addr).add j = ⟨b, off + j, none⟩ := by unfold Addr.add; split <;> simp_all
     rw [hadd]
     exact h2 j u hj
end Go.Proofs.YtgeklmigfhhpfaaGreatDoor
namespace Go.Proofs.YtgeklmigfhhpfaaGreatDoor
open Go.RowKit
attribute [local go_sem ↓] Go.wp_at_zero Go.wp_at_succ
structure Box2 (w : World) (B R C : Nat) (c : Int) (n : Nat) (cs : List Int) : Prop where
 loR : B ≤ R
 loC : B ≤ C
 ne : R ≠ C
 row : w.heap[R]? = some (.cells #[.int .i64 c, .slice (some ⟨C, 0, none⟩) n n] 86 (0, 0))
 cells : w.heap[C]? = some (.cells (cs.map (Value.int .i64)).toArray 3 (0, 0))
 len : cs.length = n
theorem Box2.kept {w w' : World} {B R C : Nat} {c : Int} {n : Nat} {cs : List Int} {r : Option Nat} (h : Box2 w B R C c n cs) (hg : w.grownBy w' r) (h1 : r ≠ some R) (h2 : r ≠ some C) : Box2 w' B R C c n cs :=
 ⟨h.loR, h.loC, h.ne, kH h.row hg h1, kH h.cells hg h2, h.len⟩
theorem Box2.size {w : World} {B R C : Nat} {c : Int} {n : Nat} {cs : List Int} (h : Box2 w B R C c n cs) : R < w.heap.size ∧ C < w.heap.size := ⟨(Array.getElem?_eq_some_iff.1 h.row).1, (Array.getElem?_eq_some_iff.1 h.cells).1⟩
theorem Box2.set {w : World} {B R C : Nat} {c : Int} {n : Nat} {cs : List Int} (h : Box2 w B R C c n cs) (i : Nat) (z : Int) : Box2 (w.setCell ⟨C, i, none⟩ (.int .i64 z)) B R C c n (cs.set i z) := by
 have hne := h.ne
 have hg := gS w C i (.int .i64 z)
 refine ⟨h.loR, h.loC, hne, kH h.row hg (by simp; omega), ?_, by simp [h.len]⟩
 show (w.heap.modify C _)[C]? = _
 rw [Array.getElem?_modify, if_pos rfl, h.cells]
 simp [List.map_set]
theorem box2_a {v : World} {b : Nat} (c : Int) (n : Nat) (hb : v.heap.size = b) :
  Box2 (((v.alloc (.cells (zeros n) 3)).alloc (.cells #[.int .i64 c, .slice (some ⟨b, 0, none⟩) n n] 86)).drew) v.heap.size (b + 1) b c n (List.replicate n 0) := by
 subst hb
 have hh : (((v.alloc (.cells (zeros n) 3)).alloc (.cells #[.int .i64 c, .slice (some ⟨v.heap.size, 0, none⟩) n n] 86)).drew).heap = (v.heap.push (.cells (zeros n) 3)).push (.cells #[.int .i64 c, .slice (some ⟨v.heap.size, 0, none⟩) n n] 86) := rfl
 refine ⟨by omega, by omega, by omega, ?_, ?_, by simp⟩
 · rw [hh]
   simp only [Array.getElem?_push, Array.size_push]
   rw [if_pos trivial]
 · rw [hh]
   simp only [Array.getElem?_push, Array.size_push]
   rw [if_neg (by omega), if_pos trivial]
   simp [zeros]
theorem box2_b {v : World} {b : Nat} (c : Int) (n : Nat) (hb : v.heap.size = b) :
  Box2 (((v.alloc (.cells #[.int .i64 c, .slice (some ⟨b + 1, 0, none⟩) n n] 86)).alloc (.cells (zeros n) 3)).drew) v.heap.size b (b + 1) c n (List.replicate n 0) := by
 subst hb
 have hh : (((v.alloc (.cells #[.int .i64 c, .slice (some ⟨v.heap.size + 1, 0, none⟩) n n] 86)).alloc (.cells (zeros n) 3)).drew).heap = (v.heap.push (.cells #[.int .i64 c, .slice (some ⟨v.heap.size + 1, 0, none⟩) n n] 86)).push (.cells (zeros n) 3) := rfl
 refine ⟨by omega, by omega, by omega, ?_, ?_, by simp⟩
 · rw [hh]
   simp only [Array.getElem?_push, Array.size_push]
   rw [if_neg (by omega), if_pos trivial]
 · rw [hh]
   simp only [Array.getElem?_push, Array.size_push]
   rw [if_pos trivial]
   simp [zeros]
def endRows (n q : Nat) (lo hi : Int) : List RowD := [(-lo, (List.replicate n 0).set q 1), (hi, (List.replicate n 0).set q (-1))]
def EndsOf (n q : Nat) (lo hi : Int) (rs : List RowD) (w : World) (e : Ending) (w' : World) : Prop :=
 ∃ kv, e = .returned kv ∧ RowLC w' kv (endRows n q lo hi ++ rs) True ∧ w.grownBy w' none
set_option maxRecDepth 100000 in
set_option maxHeartbeats 8000000 in
theorem withEnds_any (l : List SideD) (rs : List RowD) (q : Nat) (s : SideD) (sv kv : Value) (w : World) (hs : SidesAt w sv l) (hk : RowLC w kv rs True) (hq : l[q]? = some s) (hn : l.length ≤ 100) (hrn : rs.length ≤ 100000) (hlo : mid s.2.1) :
  Calls Tryz.prog 54 #[.agg #[sv, kv], .int .i64 q] w (EndsOf l.length q s.2.1 s.2.2 rs w) := by
 obtain ⟨ps, scap, rfl, ⟨hsl, hscc⟩, hsc⟩ := id hs
 obtain ⟨bb, oo, rfl, _, g1, g2, d1, d2, d3⟩ := hsc q s hq
 have hql := (List.getElem?_eq_some_iff.1 hq).1
 have HK := uH hk
 obtain ⟨j0, hj0, hy0, hy1, hy2⟩ := info_parts Tryz.infoRow
 have hmk := run_make_ints l.length (by omega)
 have hwn : IntKind.i64.wrap (-s.2.1) = -s.2.1 := wrap_near (by unfold mid at hlo; omega)
 clear hs hk hsc hlo
 generalize s.2.1 = lo at *
 generalize s.2.2 = hi at *
 go_enter Tryz.func54, Tryz.ntmps54
 go_upto_region 1 with fail
 have HB : Hid ((w.alloc (.cells #[.slice (some ⟨bb, oo, none⟩) l.length scap, kv] 81)).heap[w.heap.size]? = some (.cells #[.slice (some ⟨bb, oo, none⟩) l.length scap, kv] 81 (0, 0))) := heap_alloc_new _ _
 have HG1 := uH (gA w (.cells #[.slice (some ⟨bb, oo, none⟩) l.length scap, kv] 81) none)
 have hs1 : w.heap.size < (w.alloc (.cells #[.slice (some ⟨bb, oo, none⟩) l.length scap, kv] 81)).heap.size := by simp
 generalize w.alloc (.cells #[.slice (some ⟨bb, oo, none⟩) l.length scap, kv] 81) = w1 at *
 have b0 := (cO HB.out).1
 have d2' := HG1.out.cell d2 (by simp)
 have hI : (q : Int) < (l.length : Int) := by omega
 go_cut [5] (fun s5 wx => ∃ R C : Nat, s5 = .pointer (some ⟨R, 0, none⟩) ∧ Hid (w1.grownBy wx none) ∧ Hid (Box2 wx w1.heap.size R C (-lo) l.length (List.replicate l.length 0)))
 case first =>
  go_region_held3 (fun W => W.cell? ⟨w.heap.size, 0, none⟩ = some (.slice (some ⟨bb, oo, none⟩) l.length scap) ∧ W.cell? ⟨bb, oo + q * 3 + 1, none⟩ = some (.int .i64 lo)) (go_keep) (fail)
  all_goals
   go_wp2_with fail
   go_meet
   case rel => first
    | exact ⟨_, _, rfl, gT (gA _ _ _) (grown_ad _ _ none), box2_a _ _ rfl⟩
    | exact ⟨_, _, rfl, gT (gA _ _ _) (grown_ad _ _ none), box2_b _ _ rfl⟩
 case rest =>
  rename World => wb
  obtain ⟨R, C, rfl, HG2, HX⟩ := hcut
  have b0' := HG2.out.cell b0 (by simp)
  have d3' := (gT HG1.out HG2.out).cell d3 (by simp)
  clear b0 d2' d2
  go_upto_region 2 with fail
  go_cut [6] (fun s6 wx => ∃ R2 C2 : Nat, s6 = .pointer (some ⟨R2, 0, none⟩) ∧ Hid (wb.grownBy wx none) ∧ Hid (Box2 wx wb.heap.size R2 C2 hi l.length (List.replicate l.length 0)))
  case first =>
   go_region_held3 (fun W => W.cell? ⟨w.heap.size, 0, none⟩ = some (.slice (some ⟨bb, oo, none⟩) l.length scap) ∧ W.cell? ⟨bb, oo + q * 3 + 2, none⟩ = some (.int .i64 hi)) (go_keep) (fail)
   all_goals
    go_wp2_with fail
    go_meet
    case rel => first
     | exact ⟨_, _, rfl, gT (gA _ _ _) (grown_ad _ _ none), box2_a _ _ rfl⟩
     | exact ⟨_, _, rfl, gT (gA _ _ _) (grown_ad _ _ none), box2_b _ _ rfl⟩
  case rest =>
   rename World => wd
   obtain ⟨R2, C2, rfl, HG3, HY⟩ := hcut
   have HX2 := uH (HX.out.kept HG3.out (by simp) (by simp))
   obtain ⟨h5, h6⟩ := HX.out.size
   have h7 := HY.out.loR
   have h8 := HY.out.loC
   have h9 := HX.out.ne
   have h10 := HY.out.ne
   have h11 := HX.out.loC
   have e1 := (cell_two HX2.out.row).2
   have e2 := (cell_two HY.out.row).2
   have c1 : wd.cell? ⟨C, q, none⟩ = some (.int .i64 0) := by simp [World.cell?, HX2.out.cells, hql]
   have c2 : wd.cell? ⟨C2, q, none⟩ = some (.int .i64 0) := by simp [World.cell?, HY.out.cells, hql]
   have f1 : wd.frozen? ⟨C, q, none⟩ = false := by simp [World.frozen?, HX2.out.cells]
   have f2 : wd.frozen? ⟨C2, q, none⟩ = false := by simp [World.frozen?, HY.out.cells]
   have HGS := uH HG2.out.size
   clear b0' d3' d3 d1
   go_upto_region 3 with fail
   go_cut [] (fun wx => Hid (w.grownBy wx none) ∧ Hid (Box2 wx w1.heap.size R C (-lo) l.length ((List.replicate l.length 0).set q 1)) ∧ Hid (Box2 wx wb.heap.size R2 C2 hi l.length ((List.replicate l.length 0).set q (-1))) ∧ Hid (wx.heap[w.heap.size]? = some (.cells #[.slice (some ⟨bb, oo, none⟩) l.length scap, kv] 81 (0, 0))))
   case first =>
    go_region_held3 (fun W => W.cell? ⟨R, 1, none⟩ = some (.slice (some ⟨C, 0, none⟩) l.length l.length) ∧ W.cell? ⟨R2, 1, none⟩ = some (.slice (some ⟨C2, 0, none⟩) l.length l.length)) (first | exact ⟨(gS _ _ _ _).cell e1 (by simp; omega), (gS _ _ _ _).cell e2 (by simp; omega)⟩ | exact ⟨(gS _ _ _ _).cell ((gS _ _ _ _).cell e1 (by simp; omega)) (by simp; omega), (gS _ _ _ _).cell ((gS _ _ _ _).cell e2 (by simp; omega)) (by simp; omega)⟩ | go_keep) (fail)
    all_goals
     go_wp2_with fail
     go_meet
     case rel =>
      have hgw := gT HG1.out (gT HG2.out HG3.out)
      have k1 := gS wd C q (.int .i64 1)
      have k2 := gS (wd.setCell ⟨C, q, none⟩ (.int .i64 1)) C2 q (.int .i64 (-1))
      have k3 := gD ((wd.setCell ⟨C, q, none⟩ (.int .i64 1)).setCell ⟨C2, q, none⟩ (.int .i64 (-1))) none
      have hgs := HGS.out
      exact ⟨gT (gO (gO hgw k1 (fun k hk => by cases hk; omega)) k2 (fun k hk => by cases hk; omega)) k3, ((HX2.out.set q 1).kept k2 (by simp; omega) (by simp; omega)).kept k3 (by simp) (by simp), ((HY.out.kept k1 (by simp; omega) (by simp; omega)).set q (-1)).kept k3 (by simp) (by simp),
       kH (kH (kH (kH (kH HB.out HG2.out (by simp)) HG3.out (by simp)) k1 (by simp; omega)) k2 (by simp; omega)) k3 (by simp)⟩
   case rest =>
    rename World => we
    obtain ⟨HGw, HX3, HY3, HB3⟩ := hcut
    have hsw := HGw.out.size
    obtain ⟨r1, r2⟩ := HX3.out.size
    obtain ⟨r3, r4⟩ := HY3.out.size
    obtain ⟨t1, t2⟩ := cell_two HX3.out.row
    obtain ⟨t3, t4⟩ := cell_two HY3.out.row
    obtain ⟨cvs, hcl, hpt, hcv⟩ := rowsIn_part (HK.out.kept HGw.out)
    have HCl := uH hcl
    have HCv := uH hcv
    have HLC := uH (HK.out.kept HGw.out)
    have bx := (cO HB3.out).2.1
    have ga := gA we (.cells #[.int .i64 (-lo), .slice (some ⟨C, 0, none⟩) l.length l.length, .int .i64 hi, .slice (some ⟨C2, 0, none⟩) l.length l.length] 86) none
    have bxa := ga.cell bx (by simp)
    have hlit := World.ownsRow_lit (base := we.heap.size) (e := 86) (size := 2) we #[.int .i64 (-lo), .slice (some ⟨C, 0, none⟩) l.length l.length, .int .i64 hi, .slice (some ⟨C2, 0, none⟩) l.length l.length] 2 (Nat.le_refl _) (by decide) rfl
    obtain ⟨v', w', hr, ho, hg⟩ := append_part (P := Tryz.prog) _ we.heap.size 79 79 86 j0 (.agg #[.int .i64 0, .slice none 0 0]) 2 32 Tryz.underlying79 hj0 hy0 hy1 hy2 rfl (by decide) (by decide) _ 2 _ hlit kv (rs.length, (rs.zip cvs).flatMap rowCells) (hpt.kept ga) (by simp only; omega) (by simp)
    have HR := uH hr
    have HO := uH ho
    have HG := uH hg
    clear hlit hpt hcl hcv hr ho hg ga
    go_wp2_with (at_builtin; go_must (refine Lib.wpList_append_run _ rfl _ _ _ _ rfl _ _ rfl rfl _ _ HR.out ?_))
    go_ret
    have hgw' : we.grownBy w' none := gO (gA _ _ none) HG.out (fun k hk => by cases hk; exact Nat.le_refl _)
    have hall : ∀ w2, w'.grownBy w2 v'.ownBlock → we.grownBy w2 none := fun w2 h2 => gO hgw' h2 (fun k hk => (HO.out.lt k hk).1)
    have hb : ∀ (z x : Int), (z = 1 ∨ z = -1) → x ∈ (List.replicate l.length (0 : Int)).set q z → -9223372036854775808 ≤ x ∧ x ≤ 9223372036854775807 := fun z x hz hx => by
     rcases List.mem_or_eq_of_mem_set hx with h | h
     · have := List.eq_of_mem_replicate h
       omega
     · omega
    have hl1 : ∀ z : Int, ((List.replicate l.length (0 : Int)).set q z).length = l.length := fun z => by simp
    have he : (endRows l.length q lo hi ++ rs).length = 2 + rs.length := by simp [endRows]; omega
    refine ⟨v', rfl, RW.rowsIn (P := we.heap.size) (cvs := .slice (some ⟨C, 0, none⟩) l.length l.length :: .slice (some ⟨C2, 0, none⟩) l.length l.length :: cvs) ⟨?_, ?_, ?_⟩ (by rw [he]; omega), gT HGw.out hgw'⟩
    · have h := HCl.out
      rw [he]
      simp
      omega
    · rw [he]
      exact HO.out
    · intro j q' cv h1 h2
      match j, h1, h2 with
      | 0, h1, h2 =>
        obtain rfl := Option.some.inj h1
        obtain rfl := Option.some.inj h2
        refine ⟨some ⟨C, 0, none⟩, l.length, by simp, fun _ => by simp, fun w2 hw => ?_⟩
        have h := ints_of_block l.length (kH HX3.out.cells (hall w2 hw) (by simp)) (by rw [hl1]; omega) (fun x hx => hb 1 x (.inl rfl) hx)
        rwa [hl1] at h
      | 1, h1, h2 =>
        obtain rfl := Option.some.inj h1
        obtain rfl := Option.some.inj h2
        refine ⟨some ⟨C2, 0, none⟩, l.length, by simp, fun _ => by simp, fun w2 hw => ?_⟩
        have h := ints_of_block l.length (kH HY3.out.cells (hall w2 hw) (by simp)) (by rw [hl1]; omega) (fun x hx => hb (-1) x (.inr rfl) hx)
        rwa [hl1] at h
      | j + 2, h1, h2 =>
        obtain ⟨p, cc, e, hk, hi⟩ := HCv.out j q' cv h1 h2
        exact ⟨p, cc, e, hk, fun w2 hw => hi.kept (hall w2 hw)⟩
end Go.Proofs.YtgeklmigfhhpfaaGreatDoor
namespace Go.Proofs.YtgeklmigfhhpfaaGreatDoor
open Go.RowKit
attribute [local go_sem ↓] Go.wp_at_zero Go.wp_at_succ
structure Acc (w0 w : World) (kv : Value) (rs : List RowD) (cvs : List Value) : Prop where
 len : cvs.length = rs.length
 row : w.ownsRow w0.heap.size 86 2 kv rs.length ((rs.zip cvs).flatMap rowCells)
 coefs : ∀ (j : Nat) (q : RowD) (cv : Value), rs[j]? = some q → cvs[j]? = some cv → ∃ p cap, cv = .slice p q.2.length cap ∧ q.2.length ≤ cap ∧ IntsAt w0 cv q.2
theorem Acc.start (w0 w : World) : Acc w0 w (.slice none 0 0) [] [] := ⟨rfl, World.ownsRow_nil _ _ _ _, fun j f tv h => by simp at h⟩
theorem Acc.kept {w0 w w' : World} {kv : Value} {rs : List RowD} {cvs : List Value} {r : Option Nat} (h : Acc w0 w kv rs cvs) (hg : w.grownBy w' r) (hr : kv.ownBlock = none ∨ kv.ownBlock ≠ r) : Acc w0 w' kv rs cvs := ⟨h.len, h.row.kept hg hr, h.coefs⟩
theorem Acc.rw {w0 w : World} {kv : Value} {rs : List RowD} {cvs : List Value} (h : Acc w0 w kv rs cvs) (hg : w0.grownBy w none) : RW w w0.heap.size kv rs cvs True :=
 ⟨h.len, h.row, fun j q cv h1 h2 => by
   obtain ⟨p, cap, e, hc, hi⟩ := h.coefs j q cv h1 h2
   exact ⟨p, cap, e, fun _ => hc, fun w2 h2 => hi.kept (gO hg h2 (fun k hk => (h.row.lt k hk).1))⟩⟩
theorem Acc.at_ {w0 w : World} {p : Option Addr} {n cap : Nat} {rs : List RowD} {cvs : List Value} (h : Acc w0 w (.slice p n cap) rs cvs) {k : Nat} {r : RowD} (hr : rs[k]? = some r) :
  ∃ g pr rcap, p = some ⟨g, 0, none⟩ ∧ w.cell? ⟨g, k * 2, none⟩ = some (.int .i64 r.1) ∧ w.cell? ⟨g, k * 2 + 1, none⟩ = some (.slice pr r.2.length rcap) ∧ r.2.length ≤ rcap ∧ IntsAt w0 (.slice pr r.2.length rcap) r.2 := by
 have hjl := (List.getElem?_eq_some_iff.1 hr).1
 have hjt : cvs[k]? = some (cvs[k]'(by rw [h.len]; exact hjl)) := List.getElem?_eq_getElem _
 generalize cvs[k]'(by rw [h.len]; exact hjl) = tv at hjt
 have hz : (rs.zip cvs)[k]? = some (r, tv) := by
  rw [List.getElem?_zip_eq_some]
  exact ⟨hr, hjt⟩
 obtain ⟨b, c1, e1, _, k1⟩ := own_cell h.row (flat_get (k := 2) (fun _ => rfl) hz (i := 0) (v := .int .i64 r.1) rfl)
 obtain ⟨b2, c2, e2, _, k2⟩ := own_cell h.row (flat_get (k := 2) (fun _ => rfl) hz (i := 1) (v := tv) rfl)
 obtain ⟨rfl, _, _⟩ := Value.slice.inj e1
 obtain ⟨ee, _, _⟩ := Value.slice.inj e2
 cases ee
 obtain ⟨pc, cc, rfl, d3, d4⟩ := h.coefs k r tv hr hjt
 exact ⟨b, pc, cc, rfl, by simpa using k1, k2, d3, d4⟩
def Others (a b : Value) : Prop := ∀ g, a.ownBlock = some g → b.ownBlock ≠ some g
theorem Others.symm {a b : Value} (h : Others a b) : Others b a := fun g h1 h2 => h g h2 h1
theorem Others.ne {a b : Value} (h : Others a b) : b.ownBlock = none ∨ b.ownBlock ≠ a.ownBlock := by
 cases hb : b.ownBlock with
 | none => exact .inl rfl
 | some g => exact .inr (fun e => h g e.symm hb)
structure Accs (w0 w : World) (k1 : Value) (l1 : List RowD) (c1 : List Value) (k2 : Value) (l2 : List RowD) (c2 : List Value) (k3 : Value) (l3 : List RowD) (c3 : List Value) : Prop where
 grown : w0.grownBy w none
 a1 : Acc w0 w k1 l1 c1
 a2 : Acc w0 w k2 l2 c2
 a3 : Acc w0 w k3 l3 c3
 d12 : Others k1 k2
 d13 : Others k1 k3
 d23 : Others k2 k3
variable {w0 w w1 w2 : World} {k1 k2 k3 : Value} {l1 l2 l3 : List RowD} {c1 c2 c3 : List Value}
theorem Accs.rot (h : Accs w0 w k1 l1 c1 k2 l2 c2 k3 l3 c3) : Accs w0 w k2 l2 c2 k3 l3 c3 k1 l1 c1 := ⟨h.grown, h.a2, h.a3, h.a1, h.d23, h.d12.symm, h.d13.symm⟩
theorem Accs.kept {w' : World} (h : Accs w0 w k1 l1 c1 k2 l2 c2 k3 l3 c3) (hg : w.grownBy w' none) : Accs w0 w' k1 l1 c1 k2 l2 c2 k3 l3 c3 := by
 have key : ∀ v : Value, v.ownBlock = none ∨ v.ownBlock ≠ none := fun v => by cases v.ownBlock <;> simp
 exact ⟨gT h.grown hg, h.a1.kept hg (key _), h.a2.kept hg (key _), h.a3.kept hg (key _), h.d12, h.d13, h.d23⟩
theorem Accs.start (w : World) : Accs w w (.slice none 0 0) [] [] (.slice none 0 0) [] [] (.slice none 0 0) [] [] :=
 ⟨gR _ _, Acc.start _ _, Acc.start _ _, Acc.start _ _, (fun g h => by cases h), (fun g h => by cases h), (fun g h => by cases h)⟩
theorem Accs.push {g cap : Nat} {cv : Value} {r : RowD} {o : Obj} (h : Accs w0 w k1 l1 c1 k2 l2 c2 k3 l3 c3) (hg1 : w.grownBy w1 none)
  (hcv : ∃ p cap, cv = .slice p r.2.length cap ∧ r.2.length ≤ cap ∧ IntsAt w0 cv r.2) (hg2 : (w1.alloc o).grownBy w2 k1.ownBlock)
  (row : w2.ownsRow w0.heap.size 86 2 (.slice (some ⟨g, 0, none⟩) (l1.length + 1) cap) (l1.length + 1) ((l1.zip c1).flatMap rowCells ++ rowCells (r, cv))) (hg : k1.ownBlock = some g ∨ w1.heap.size ≤ g) :
  Accs w0 w2 (.slice (some ⟨g, 0, none⟩) (l1.length + 1) cap) (l1 ++ [r]) (c1 ++ [cv]) k2 l2 c2 k3 l3 c3 := by
 have hk := h.kept (gT hg1 (gA w1 o none))
 have hs := hg1.size
 have old : ∀ {v : Value} {l : List RowD} {c : List Value}, Acc w0 w v l c → Others k1 v → Others (.slice (some ⟨g, 0, none⟩) (l1.length + 1) cap) v := by
  intro v l c ha hd b hb e
  have hb : g = b := Option.some.inj hb
  subst hb
  rcases hg with hg | hg
  · exact hd g hg e
  · have := (ha.row.lt g e).2
    omega
 refine ⟨gO hk.grown hg2 (fun k hk' => (h.a1.row.lt k hk').1), ⟨by simp [h.a1.len], ?_, fun j q cv' hj hcv' => ?_⟩, hk.a2.kept hg2 h.d12.ne, hk.a3.kept hg2 h.d13.ne, old h.a2 h.d12, old h.a3 h.d13, h.d23⟩
 · rw [List.length_append, List.zip_append (by rw [h.a1.len]), List.flatMap_append]
   simpa using row
 · by_cases hj' : j < l1.length
   · rw [List.getElem?_append_left hj'] at hj
     rw [List.getElem?_append_left (by rw [h.a1.len]; exact hj')] at hcv'
     exact h.a1.coefs j q cv' hj hcv'
   · have hj2 : j = l1.length := by
      have := (List.getElem?_eq_some_iff.1 hj).1
      simp at this
      omega
     subst hj2
     simp at hj
     subst hj
     rw [← h.a1.len] at hcv'
     simp at hcv'
     subst hcv'
     exact hcv
end Go.Proofs.YtgeklmigfhhpfaaGreatDoor
