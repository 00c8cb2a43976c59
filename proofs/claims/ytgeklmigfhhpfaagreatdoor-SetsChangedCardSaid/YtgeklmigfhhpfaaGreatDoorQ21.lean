/-
 affine.Shadow. The rows of a set in which a variable is replaced. affine.Mapped. affine.Mapped: the errors.
-/
import Derived.Deep.RegionHeld3
import Derived.Deep.DeepMust
import Derived.Deep.AppendLies
import Derived.WalkSpells
import Derived.Test.YtgeklmigfhhpfaaGreatDoorQ20
namespace Go.Proofs.YtgeklmigfhhpfaaGreatDoor
open Go.RowKit
attribute [local go_sem ↓] Go.wp_at_zero Go.wp_at_succ
theorem TgB.next {w0 wr : World} {X R : Nat} {sv kv a b : Value} (h : TgB w0 wr X R sv kv) : TgB w0 (wr.alloc (.cells #[a, b] 81)) wr.heap.size R a b := by
 have ga := gA wr (.cells #[a, b] 81) none
 have hR := (Array.getElem?_eq_some_iff.1 h.res).1
 exact ⟨gT h.grown ga, h.grown.size, h.newR, by omega, heap_alloc_new _ _, kH h.res ga (by simp)⟩
theorem two_away {w : World} {R B k : Nat} {a b x : Value} (h : w.cell? ⟨B, k, none⟩ = some x) (hne : B ≠ R) : ((w.setCell ⟨R, 0, none⟩ a).setCell ⟨R, 1, none⟩ b).cell? ⟨B, k, none⟩ = some x :=
 far_cell hne (gT (gS w R 0 a) (gS (w.setCell ⟨R, 0, none⟩ a) R 1 b)) h
theorem shadow_a {w0 wr : World} {X R n m ucap vcap : Nat} {sv kv : Value} {pu pv : Option Addr} {L : List SideD} {R3 : List RowD} (h : TgB w0 wr X R sv kv) (hs : SidesAt wr (.slice pu n ucap) L) (hr : RowLC wr (.slice pv m vcap) R3 True) :
  Hid (TgB w0 (wr.alloc (.cells #[.slice pu n ucap, .slice pv m vcap] 81)) wr.heap.size R (.slice pu n ucap) (.slice pv m vcap)) ∧ Hid (SidesAt (wr.alloc (.cells #[.slice pu n ucap, .slice pv m vcap] 81)) (.slice pu n ucap) L) ∧ Hid (RowLC (wr.alloc (.cells #[.slice pu n ucap, .slice pv m vcap] 81)) (.slice pv m vcap) R3 True) :=
 ⟨h.next, hs.kept (gA _ _ _), hr.kept (gA _ _ _)⟩
theorem shadow_b {w0 wr : World} {X Xb R n m ucap vcap : Nat} {sv kv : Value} {pu pv : Option Addr} {L : List SideD} {R3 : List RowD} (h : TgB w0 wr X R sv kv) (hs : SidesAt wr (.slice pu n ucap) L) (hr : RowLC wr (.slice pv m vcap) R3 True)
  (hx : wr.heap[Xb]? = some (.cells #[.slice none 0 0, .slice none 0 0] 81 (0, 0))) (h0 : w0.heap.size ≤ Xb) (hne : R ≠ Xb) :
  Hid (TgB w0 ((wr.setCell ⟨Xb, 0, none⟩ (.slice pu n ucap)).setCell ⟨Xb, 1, none⟩ (.slice pv m vcap)) Xb R (.slice pu n ucap) (.slice pv m vcap)) ∧ Hid (SidesAt ((wr.setCell ⟨Xb, 0, none⟩ (.slice pu n ucap)).setCell ⟨Xb, 1, none⟩ (.slice pv m vcap)) (.slice pu n ucap) L) ∧ Hid (RowLC ((wr.setCell ⟨Xb, 0, none⟩ (.slice pu n ucap)).setCell ⟨Xb, 1, none⟩ (.slice pv m vcap)) (.slice pv m vcap) R3 True) := by
 obtain ⟨h1, g1⟩ := two_set hx (.slice pu n ucap) (.slice pv m vcap)
 have hb := slBox_two hx
 exact ⟨⟨gO h.grown g1 (fun k hk => by cases hk; exact h0), h0, h.newR, hne, h1, kH h.res g1 (by simp; exact fun e => hne e.symm)⟩, hs.over hb g1, hr.over hb g1⟩
def ShadowRes (L : List SideD) (R : List RowD) (w : World) (e : Ending) (w' : World) : Prop := ∃ C, Twin (RowF L) R C ∧ Res (setErr (L, C)) (okSet (L, C)) w e w'
set_option maxRecDepth 100000 in
set_option maxHeartbeats 8000000 in
theorem shadow_core (S : List SideD × List CondD) (x : ByteArray) (q : Nat) (s : SideD) (L : List SideD) (R1 R2 R3 R4 : List RowD) (hL : L = S.1.eraseIdx q) (hR1 : R1 = endsR S q s) (hR2 : R2 = elimR q R1) (hR3 : R3 = R2.map (lessR q)) (hR4 : R4 = mergeAll (R3.filterMap tightR))
  (sv cv : Value) (w : World) (hx : x.size ≤ maxLen) (hS : SetAt w sv cv S) (hE : setErr S = 0) (hN : nameErr (namesOf S.1) x = 0) (hq : S.1[q]? = some s) (hf : firstI (sameName x) S.1 = (q : Int)) :
  Calls Tryz.prog 12 #[.agg #[sv, cv], .string x] w (ShadowRes L R4 w) := by
 obtain ⟨ps, scap, rfl, _⟩ := id hS.1
 obtain ⟨pc, ccap, rfl, _⟩ := id hS.2
 have HS := uH hS
 have HE := uH hE
 have HN := uH hN
 have HQ := uH hq
 have HF := uH hf
 have HL := uH hL
 have hn8 := (set_good hE).1
 have hn60 := rows_len hE
 have hql : q < S.1.length := (List.getElem?_eq_some_iff.1 hq).1
 obtain ⟨d1, d2, d3, d4⟩ := set_sides hE
 have HGs := uH d3
 have HMd : Hid (mid s.2.1) := by have := d4 s (List.mem_of_getElem? hq); show mid _; unfold mid; omega
 have HR1 := uH hR1
 have HR2 := uH hR2
 have HR3 := uH hR3
 have HR4 := uH hR4
 obtain ⟨eg, el⟩ := ends_good hE hq
 have HG1 : Hid (∀ r ∈ R1, goodRow S.1.length r) := by rw [hR1]; exact eg
 have hl1 : R1.length ≤ 62 := by rw [hR1]; exact el
 have HG2 : Hid (∀ r ∈ R2, bigRow S.1.length r) := by rw [hR2]; exact elim_good HG1.out
 have hl2 : R2.length ≤ 3906 := by rw [hR2]; exact elim_length (m := 62) hl1
 have hLl : L.length = S.1.length - 1 := by rw [hL, List.length_eraseIdx, if_pos hql]
 have HG3 : Hid (∀ r ∈ R3, bigRow L.length r) := by
  rw [hR3, hLl]
  intro r hr
  obtain ⟨a, ha, rfl⟩ := List.mem_map.1 hr
  exact less_good (HG2.out a ha) hql
 have hl3 : R3.length ≤ 3906 := by rw [hR3, List.length_map]; exact hl2
 have HG4 := uH (tight_good (n := L.length) (rs := R3) (fun r hr => (HG3.out r hr).1) (fun r hr => big_mid (HG3.out r hr)))
 rw [← hR4] at HG4
 have hl4 := HG4.out.1
 have HAp : Hid (Apart L) := by rw [hL]; exact apart_erase d1 q
 have HNe : Hid (∀ t ∈ L, t.1 ≠ ByteArray.empty) := by rw [hL]; exact fun t ht => d2 t (List.mem_of_mem_eraseIdx ht)
 have HGd : Hid (∀ t ∈ L, goodSide t) := by rw [hL]; exact fun t ht => d3 t (List.mem_of_mem_eraseIdx ht)
 have hL8 : L.length ≤ 8 := by omega
 clear hS hE hN hq hf hL hR1 hR2 hR3 hR4 d1 d2 d3 d4 eg el hLl
 go_enter Tryz.func12, Tryz.ntmps12
 go_upto_region 4 with (go_at_call 51; go_must (refine (spaceAndPlace_any S x _ _ _ hx (HS.out.kept (gT (gA _ _ _) (gA _ _ _)))).mono ?_; rintro e w2 ⟨hg, _, _, hok⟩; obtain ⟨kv, cvs, he, hk⟩ := hok HE.out HN.out; rw [HF.out] at he; subst he; obtain ⟨pk, kcap, rfl⟩ := own_form hk.row; have HB := uH (TgB.start (sv := .slice ps S.1.length scap) (kv := .slice pk (rowsOf S).length kcap) hg); have HK := uH ((hk.room (n := S.1.length) (by omega) (by omega) (rows_good HE.out)).kept (gA w2 (.cells #[.slice ps S.1.length scap, .slice pk (rowsOf S).length kcap] 81) none)); clear hg hok hk))
 generalize w2.alloc (.cells #[.slice ps S.1.length scap, .slice pk (rowsOf S).length kcap] 81) = w3 at *
 generalize w2.heap.size = X at *
 obtain ⟨x0, x1, _⟩ := cO HB.out.box
 have hX3 : X < w3.heap.size := (Array.getElem?_eq_some_iff.1 HB.out.box).1
 have hw3 : w.heap.size + 1 < w3.heap.size := (Array.getElem?_eq_some_iff.1 HB.out.res).1
 go_cut [9] (fun s9 wx => ∃ (Xb : Nat) (pu : Option Addr) (ucap : Nat) (pv : Option Addr) (vcap : Nat), s9 = .pointer (some ⟨Xb, 0, none⟩) ∧ Hid (TgB w wx Xb (w.heap.size + 1) (.slice pu L.length ucap) (.slice pv R3.length vcap)) ∧ Hid (SidesAt wx (.slice pu L.length ucap) L) ∧ Hid (RowLC wx (.slice pv R3.length vcap) R3 True))
 case first =>
  go_region_held3 (fun W => W.cell? ⟨X, 0, none⟩ = some (.slice ps S.1.length scap) ∧ W.cell? ⟨X, 1, none⟩ = some (.slice pk (rowsOf S).length kcap)) (first
   | go_keep
   | (with_reducible exact ⟨K.out.cell x0 (by simp), K.out.cell x1 (by simp)⟩)
   | (with_reducible exact ⟨(gT K.out (gA _ _ none)).cell x0 (by simp), (gT K.out (gA _ _ none)).cell x1 (by simp)⟩)
   | (with_reducible exact ⟨two_away (K.out.cell x0 (by simp)) (by omega), two_away (K.out.cell x1 (by simp)) (by omega)⟩)) (first
   | (go_at_call 54; go_must (refine (withEnds_any S.1 (rowsOf S) q s _ _ _ (HS.out.1.kept (gT HB.out.grown (by first | exact gD _ _ | exact K.out | exact gT K.out (gA _ _ none) | exact gT (gA _ _ none) (gD _ none)))) (HK.out.kept (by first | exact gD _ _ | exact K.out | exact gT K.out (gA _ _ none) | exact gT (gA _ _ none) (gD _ none))) HQ.out (by omega) (by omega) HMd.out).mono ?_; rintro e w4 ⟨kv4, rfl, hr4, hg4⟩; have hr4 : RowLC w4 kv4 R1 True := (by rw [HR1.out]; exact hr4); obtain ⟨pe, ecap, rfl, _⟩ := id hr4; have K : Hid (w3.grownBy w4 none) := uH (gT (by first | exact gD _ _ | exact K.out | exact gT K.out (gA _ _ none) | exact gT (gA _ _ none) (gD _ none)) hg4); have hs4 := K.out.size; have HE4 := uH hr4; (first | (have hX := kH HX.out hg4 (by simp); clear HX; have HX := uH hX; clear hX) | (have hX := kH (heap_alloc_new _ (.cells #[.slice none 0 0, .slice none 0 0] 81)) hg4 (by simp); have HX := uH hX; clear hX) | (have hX := kH (show (w3.alloc (.cells #[.slice none 0 0, .slice none 0 0] 81)).drew.heap[w3.heap.size]? = some _ from heap_alloc_new w3 (.cells #[.slice none 0 0, .slice none 0 0] 81)) hg4 (by simp); have HX := uH hX; clear hX) | skip); clear hr4 hg4))
   | (go_at_call 53; go_must (refine (eliminated_any S.1.length q R1 _ _ (by first | exact HE4.out | exact HE4.out.kept (gA _ _ none)) (fun r hr => (HG1.out r hr).1) hql (by omega) (by omega) (fun r hr => (HG1.out r hr).2)).mono ?_; rintro e w5 ⟨kv5, rfl, hr5, hg5⟩; have hr5 : RowLC w5 kv5 R2 True := (by rw [HR2.out]; exact hr5); obtain ⟨pf, fcap, rfl, _⟩ := id hr5; have K : Hid (w3.grownBy w5 none) := uH (gT (by first | exact gD _ _ | exact K.out | exact gT K.out (gA _ _ none) | exact gT (gA _ _ none) (gD _ none)) hg5); have hs5 := K.out.size; have HE5 := uH hr5; (first | (have hX := kH HX.out hg5 (by simp); clear HX; have HX := uH hX; clear hX) | (have hX := kH (heap_alloc_new _ (.cells #[.slice none 0 0, .slice none 0 0] 81)) hg5 (by simp); have HX := uH hX; clear hX) | (have hX := kH (show (w3.alloc (.cells #[.slice none 0 0, .slice none 0 0] 81)).drew.heap[w3.heap.size]? = some _ from heap_alloc_new w3 (.cells #[.slice none 0 0, .slice none 0 0] 81)) hg5 (by simp); have HX := uH hX; clear hX) | skip); clear hr5 hg5))
   | (go_at_call 52; go_must (refine (spaceWithout_any S.1 R2 q _ _ _ _ (HS.out.1.kept (gT HB.out.grown (by first | exact gD _ _ | exact K.out | exact gT K.out (gA _ _ none) | exact gT (gA _ _ none) (gD _ none)))) (by first | exact HE5.out | exact HE5.out.kept (gA _ _ none)) (fun r hr => (HG2.out r hr).1) hql (by omega) (by omega) HGs.out (fun r hr => (big_mid (HG2.out r hr)).2)).mono ?_; rintro e w6 ⟨sv6, kv6, rfl, hs6, hr6, hg6⟩; have hs6 : SidesAt w6 sv6 L := (by rw [HL.out]; exact hs6); have hr6 : RowLC w6 kv6 R3 True := (by rw [HR3.out]; exact hr6); obtain ⟨pu, ucap, rfl, _⟩ := id hs6; obtain ⟨pv, vcap, rfl, _⟩ := id hr6; have K : Hid (w3.grownBy w6 none) := uH (gT (by first | exact gD _ _ | exact K.out | exact gT K.out (gA _ _ none) | exact gT (gA _ _ none) (gD _ none)) hg6); have hs6' := K.out.size; have HS6 := uH hs6; have HE6 := uH hr6; (first | (have hX := kH HX.out hg6 (by simp); clear HX; have HX := uH hX; clear hX) | (have hX := kH (heap_alloc_new _ (.cells #[.slice none 0 0, .slice none 0 0] 81)) hg6 (by simp); have HX := uH hX; clear hX) | (have hX := kH (show (w3.alloc (.cells #[.slice none 0 0, .slice none 0 0] 81)).drew.heap[w3.heap.size]? = some _ from heap_alloc_new w3 (.cells #[.slice none 0 0, .slice none 0 0] 81)) hg6 (by simp); have HX := uH hX; clear hX) | skip); clear hs6 hr6 hg6; (first | (have hbx := cO HX.out; obtain ⟨b0, b1, bf⟩ := hbx) | skip))))
  all_goals
   go_wp2_with fail
   go_meet
   case rel => first
    | exact ⟨_, pu, ucap, pv, vcap, rfl, shadow_a (HB.out.kept K.out) HS6.out HE6.out⟩
    | exact ⟨_, pu, ucap, pv, vcap, rfl, shadow_b (HB.out.kept K.out) HS6.out HE6.out HX.out (by omega) (by omega)⟩
 case rest =>
  obtain ⟨Xb, pu, ucap, pv, vcap, rfl, HB7, HS7, HE7⟩ := hcut
  clear x0 x1
  obtain ⟨x0, x1, _⟩ := cO HB7.out.box
  go_upto_region 6 with (go_at_call 50; go_must (refine (tight_any L.length R3 _ _ HE7.out (fun r hr => (HG3.out r hr).1) (by omega) (by omega) (fun r hr => big_mid (HG3.out r hr))).mono ?_; rintro e w8 ⟨kv8, rfl, hr8, hg8⟩; have hr8 : RowLC w8 kv8 R4 False := (by rw [HR4.out]; exact hr8); obtain ⟨pr, rcap, rfl, _⟩ := id hr8; have HB8 := uH (HB7.out.kept hg8); have HS8 := uH (HS7.out.kept hg8); have HR8 := uH hr8; clear hr8 hg8 x0 x1; obtain ⟨y0, y1, yf⟩ := cO HB8.out.box))
  have HB9 := uH (HB8.out.put (.slice pr R4.length rcap))
  have HR9 := uH (HR8.out.over (slBox_two HB8.out.box) (gS w8 Xb 1 (.slice pr R4.length rcap)))
  have HS9 := uH (HS8.out.over (slBox_two HB8.out.box) (gS w8 Xb 1 (.slice pr R4.length rcap)))
  have HSz9 : Hid (w.heap.size + 1 < (w8.setCell ⟨Xb, 1, none⟩ (.slice pr R4.length rcap)).heap.size) := by
   have h := (Array.getElem?_eq_some_iff.1 HB9.out.res).1
   exact h
  clear y0 y1 yf
  generalize w8.setCell ⟨Xb, 1, none⟩ (.slice pr R4.length rcap) = w9 at *
  obtain ⟨z0, z1, zf⟩ := cO HB9.out.box
  go_wp2_with (go_at_call 45; go_must (refine (spaceSet_any L R4 _ _ _ HS9.out HR9.out.rows (fun r hr => (HG4.out.2 r hr).2.1) (by omega) (by omega) HAp.out HNe.out HGd.out (fun r hr => small_row (HG4.out.2 r hr))).mono ?_; rintro e w10 hso; obtain ⟨fl, p6, c6, p7, c7, htw, hg10, rfl, hset⟩ := SetOut.res hso; have HTw := uH htw; have HB10 := uH (HB9.out.kept hg10); have HOk := uH hset; clear hso htw hg10 hset; obtain ⟨r0, r1, rf⟩ := cO HB10.out.res))
  obtain ⟨D1, D2, D3⟩ := HB10.out.done (.slice p6 (okSet (L, fl)).1.length c6) (.slice p7 (okSet (L, fl)).2.length c7)
  exact bodyPost_ret (results_set rfl _ _ (w.heap.size + 1) _ _ _ _ rfl D3) rfl ⟨fl, HTw.out, D1, _, _, rfl, HOk.out _ _ (fun k hk => by cases hk; exact HSz9.out) D2⟩
def placeErr (S : List SideD × List CondD) (x : ByteArray) : Int := if setErr S = 0 then nameErr (namesOf S.1) x else setErr S
theorem place_bad {S : List SideD × List CondD} {x : ByteArray} {sv : Value} {w w' : World} {e : Ending} (h : SpacePlace S x sv w e w') (hE : placeErr S x ≠ 0) : e = .returned (.tuple #[.agg #[.slice none 0 0, .slice none 0 0], .int .i64 0, .int .i64 (placeErr S x)]) := by
 obtain ⟨_, h1, h2, _⟩ := h
 unfold placeErr at hE ⊢
 by_cases h0 : setErr S = 0
 · rw [if_pos h0] at hE ⊢
   exact h2 h0 hE
 · rw [if_neg h0] at hE ⊢
   exact h1 h0
set_option maxRecDepth 100000 in
set_option maxHeartbeats 4000000 in
theorem shadow_err (S : List SideD × List CondD) (x : ByteArray) (sv cv : Value) (w : World) (hx : x.size ≤ maxLen) (hS : SetAt w sv cv S) (hE : placeErr S x ≠ 0) :
  Calls Tryz.prog 12 #[.agg #[sv, cv], .string x] w (ErrRes (placeErr S x) w) := by
 obtain ⟨ps, scap, rfl, _⟩ := id hS.1
 obtain ⟨pc, ccap, rfl, _⟩ := id hS.2
 have HS := uH hS
 have hE0 : (placeErr S x != 0) = true := by simpa using hE
 have HE := uH hE
 clear hS hE
 go_enter Tryz.func12, Tryz.ntmps12
 go_wp2_with (go_at_call 51; go_must (refine (spaceAndPlace_any S x _ _ _ hx (HS.out.kept (gT (gA _ _ _) (gA _ _ _)))).mono ?_; rintro e w2 hpl; have hg := hpl.1; obtain rfl := place_bad hpl HE.out; have HB := uH (TgB.start (sv := .slice none 0 0) (kv := .slice none 0 0) hg); clear hg hpl; obtain ⟨r0, r1, rf⟩ := cO HB.out.res))
 obtain ⟨D1, D2, D3⟩ := HB.out.done (.slice none 0 0) (.slice none 0 0)
 exact bodyPost_ret (results_set rfl _ _ (w.heap.size + 1) _ _ _ _ rfl D3) rfl ⟨D1, rfl⟩
end Go.Proofs.YtgeklmigfhhpfaaGreatDoor
namespace Go.Proofs.YtgeklmigfhhpfaaGreatDoor
open Go.RowKit
theorem contains_erase {l : List SideD} {q : Nat} {x : ByteArray} (h : containsB (namesOf (l.eraseIdx q)) x = true) : containsB (namesOf l) x = true := by
 unfold containsB at *
 rw [List.any_eq_true] at *
 obtain ⟨y, hy, he⟩ := h
 obtain ⟨s, hs, rfl⟩ := List.mem_map.1 hy
 exact ⟨s.1, List.mem_map.2 ⟨s, List.mem_of_mem_eraseIdx hs, rfl⟩, he⟩
theorem terms_erase {l : List SideD} {q : Nat} {ts : List (ByteArray × Int)} (h : termsIn (namesOf (l.eraseIdx q)) ts = true) : termsIn (namesOf l) ts = true := by
 unfold termsIn at *
 rw [List.all_eq_true] at *
 exact fun t ht => contains_erase (h t ht)
def putR (q : Nat) (pr r : RowD) : RowD := sumR r 1 pr (coefAt q r)
theorem put_good {n q : Nat} {pr r : RowD} (hp : goodRow n pr) (hr : goodRow n r) : bigRow n (putR q pr r) := sum_good hr hp (by decide) (coefAt_abs hr)
theorem map_start {w w2 : World} {a b c d sv kv : Value} (h : (((w.alloc (.cells #[a, b] 29)).alloc (.cells #[c, d] 35)).alloc (.cells #[.slice none 0 0, .slice none 0 0] 29)).grownBy w2 none) :
  TgB w (w2.alloc (.cells #[sv, kv] 81)) w2.heap.size (w.heap.size + 2) sv kv ∧ (w2.alloc (.cells #[sv, kv] 81)).heap[w.heap.size + 1]? = some (.cells #[c, d] 35 (0, 0)) := by
 have hs := h.size
 simp at hs
 have ga := gA w2 (.cells #[sv, kv] 81) none
 have h3 := heap_alloc_new ((w.alloc (.cells #[a, b] 29)).alloc (.cells #[c, d] 35)) (.cells #[.slice none 0 0, .slice none 0 0] 29)
 have h2 := kH (heap_alloc_new (w.alloc (.cells #[a, b] 29)) (.cells #[c, d] 35)) (gA _ (.cells #[.slice none 0 0, .slice none 0 0] 29) none) (by simp)
 exact ⟨⟨gT (gA _ _ _) (gT (gA _ _ _) (gT (gA _ _ _) (gT h ga))), by omega, by omega, by omega, heap_alloc_new _ _, kH (kH (by simpa using h3) h (by simp)) ga (by simp)⟩, kH (kH (by simpa using h2) h (by simp)) ga (by simp)⟩
end Go.Proofs.YtgeklmigfhhpfaaGreatDoor
namespace Go.Proofs.YtgeklmigfhhpfaaGreatDoor
open Go.RowKit
attribute [local go_sem ↓] Go.wp_at_zero Go.wp_at_succ
theorem around_ok {names : List ByteArray} {c : Int} {ts : List (ByteArray × Int)} (h : aroundErr names (c, ts) = 0) : formErr c ts = 0 ∧ termsIn names ts = true := by
 unfold aroundErr at h
 by_cases h1 : formErr c ts = 0
 · by_cases h2 : termsIn names ts = true
   · exact ⟨h1, h2⟩
   · simp [h1, h2] at h
 · simp [h1] at h
theorem Tryz.fieldSpace (W : World) (a b : Value) : Sem.run Tryz.prog (Instr.field 81 (.agg #[a, b]) 0) W = .ok a W := by
 kernel_rfl
theorem sum_put (n q : Nat) (pr r d : RowD) (hd : d = putR q pr r) (c : Int) (hc0 : pr.1 = c) (rv pv : Value) (w : World) (hr : IntsAt w rv r.2) (hp : IntsAt w pv pr.2) (hn : n ≤ 1000) (gr : goodRow n r) (gp : goodRow n pr) :
  Calls Tryz.prog 57 #[.agg #[.int .i64 r.1, rv], .int .i64 1, .agg #[.int .i64 c, pv], .int .i64 (coefAt q r)] w (RowOfPost d.1 r.2.length d.2 w) := by
 subst hd hc0
 have hc := coefAt_abs (k := q) gr
 exact sum_any r pr 1 (coefAt q r) rv pv w hr hp (by rw [gp.1, gr.1]) (by rw [gr.1]; omega) (by unfold mid; omega) (by unfold mid; omega) (by have := gr.2.1; unfold mid; omega) (by have := gp.2.1; unfold mid; omega) (fun z hz => by have := gr.2.2 z hz; unfold mid; omega) (fun z hz => by have := gp.2.2 z hz; unfold mid; omega)
theorem rows_nil (w : World) : RowLC w (.slice none 0 0) [] True := ⟨none, 0, rfl, by simp, by simp, fun _ => rfl, fun j r h => by simp at h⟩
set_option maxRecDepth 100000 in
set_option maxHeartbeats 8000000 in
theorem mapped_core (S : List SideD × List CondD) (x : ByteArray) (q : Nat) (s : SideD) (c : Int) (ts : List (ByteArray × Int)) (pr : RowD) (L : List SideD) (R1 R5 R6 : List RowD) (hL : L = S.1.eraseIdx q) (hpr : pr = (c, coefsOf S.1 ts)) (hR1 : R1 = endsR S q s) (hR5 : R5 = R1.map (putR q pr)) (hR6 : R6 = R5.map (lessR q))
  (sv cv tv : Value) (w : World) (hx : x.size ≤ maxLen) (hS : SetAt w sv cv S) (ht : TermsAt w tv ts) (hE : setErr S = 0) (hN : nameErr (namesOf S.1) x = 0) (hq : S.1[q]? = some s) (hf : firstI (sameName x) S.1 = (q : Int)) (hA : aroundErr (namesOf L) (c, ts) = 0) :
  Calls Tryz.prog 13 #[.agg #[sv, cv], .string x, .agg #[.int .i64 c, tv]] w (ShadowRes L R6 w) := by
 obtain ⟨ps, scap, rfl, _⟩ := id hS.1
 obtain ⟨pc, ccap, rfl, _⟩ := id hS.2
 obtain ⟨pt, tcap, rfl, _⟩ := id ht
 have HS := uH hS
 have HTs := uH ht
 have HE := uH hE
 have HN := uH hN
 have HQ := uH hq
 have HF := uH hf
 have HL := uH hL
 have HA := uH hA
 have hn8 := (set_good hE).1
 have hn60 := rows_len hE
 have hql : q < S.1.length := (List.getElem?_eq_some_iff.1 hq).1
 obtain ⟨d1, d2, d3, d4⟩ := set_sides hE
 have HGs := uH d3
 have HMd : Hid (mid s.2.1) := by have := d4 s (List.mem_of_getElem? hq); show mid _; unfold mid; omega
 have HR1 := uH hR1
 have HR5 := uH hR5
 have HR6 := uH hR6
 obtain ⟨eg, el⟩ := ends_good hE hq
 have HG1 : Hid (∀ r ∈ R1, goodRow S.1.length r) := by rw [hR1]; exact eg
 have hl1 : R1.length ≤ 62 := by rw [hR1]; exact el
 have HIn : Hid (termsIn (namesOf S.1) ts = true) := terms_erase (by have h := (around_ok hA).2; rw [hL] at h; exact h)
 have HPr := uH hpr
 have HPg : Hid (goodRow S.1.length pr) := by rw [hpr]; exact coefs_good (around_ok hA).1
 have HPl := uH HPg.out.1
 have HG5 : Hid (∀ r ∈ R5, bigRow S.1.length r) := by
  rw [hR5]
  intro r hr
  obtain ⟨a, ha, rfl⟩ := List.mem_map.1 hr
  exact put_good HPg.out (HG1.out a ha)
 have hl5 : R5.length ≤ 62 := by rw [hR5, List.length_map]; exact hl1
 have hLl : L.length = S.1.length - 1 := by rw [hL, List.length_eraseIdx, if_pos hql]
 have HG6 : Hid (∀ r ∈ R6, bigRow L.length r) := by
  rw [hR6, hLl]
  intro r hr
  obtain ⟨a, ha, rfl⟩ := List.mem_map.1 hr
  exact less_good (HG5.out a ha) hql
 have hl6 : R6.length ≤ 62 := by rw [hR6, List.length_map]; exact hl5
 have HAp : Hid (Apart L) := by rw [hL]; exact apart_erase d1 q
 have HNe : Hid (∀ t ∈ L, t.1 ≠ ByteArray.empty) := by rw [hL]; exact fun t ht => d2 t (List.mem_of_mem_eraseIdx ht)
 have HGd : Hid (∀ t ∈ L, goodSide t) := by rw [hL]; exact fun t ht => d3 t (List.mem_of_mem_eraseIdx ht)
 have hL8 : L.length ≤ 8 := by omega
 have hp0 : pr.1 = c := by rw [hpr]
 obtain ⟨j0, hj0, hy0, hy1, hy2⟩ := info_parts Tryz.infoRow
 have HG0 := uH (gT (gA w (.cells #[.slice ps S.1.length scap, .slice pc S.2.length ccap] 29) none) (gT (gA _ (.cells #[.int .i64 c, .slice pt ts.length tcap] 35) none) (gA _ (.cells #[.slice none 0 0, .slice none 0 0] 29) none)))
 have HP0 := uH hp0
 clear hS ht hE hN hq hf hL hR1 hR5 hR6 d1 d2 d3 d4 eg el hLl hA hpr hp0
 go_enter Tryz.func13, Tryz.ntmps13
 go_upto_region 4 with (go_at_call 51; go_must (refine (spaceAndPlace_any S x _ _ _ hx (HS.out.kept HG0.out)).mono ?_; rintro e w2 ⟨hg, _, _, hok⟩; obtain ⟨kv, cvs, he, hk⟩ := hok HE.out HN.out; rw [HF.out] at he; subst he; obtain ⟨pk, kcap, rfl⟩ := own_form hk.row; obtain ⟨hb, hfo⟩ := map_start (sv := .slice ps S.1.length scap) (kv := .slice pk (rowsOf S).length kcap) hg; have HB := uH hb; have HFo := uH hfo; have HK := uH ((hk.room (n := S.1.length) (by omega) (by omega) (rows_good HE.out)).kept (gA w2 (.cells #[.slice ps S.1.length scap, .slice pk (rowsOf S).length kcap] 81) none)); clear hg hok hk hb hfo))
 generalize w2.alloc (.cells #[.slice ps S.1.length scap, .slice pk (rowsOf S).length kcap] 81) = w3 at *
 generalize w2.heap.size = X at *
 obtain ⟨x0, x1, _⟩ := cO HB.out.box
 obtain ⟨f0, f1, _⟩ := cO HFo.out
 have hX3 : X < w3.heap.size := (Array.getElem?_eq_some_iff.1 HB.out.box).1
 have hw3 : w.heap.size + 2 < w3.heap.size := (Array.getElem?_eq_some_iff.1 HB.out.res).1
 have hfl := Tryz.fieldSpace
 go_cut [11] (fun s11 wx => s11 = .int .i64 0 ∧ Hid (w3.grownBy wx none))
 case first =>
  go_region_held3 (fun W => W.cell? ⟨X, 0, none⟩ = some (.slice ps S.1.length scap) ∧ W.cell? ⟨X, 1, none⟩ = some (.slice pk (rowsOf S).length kcap) ∧ W.cell? ⟨w.heap.size + 1, 0, none⟩ = some (.int .i64 c) ∧ W.cell? ⟨w.heap.size + 1, 1, none⟩ = some (.slice pt ts.length tcap)) (first
   | go_keep
   | (with_reducible exact ⟨K.out.cell x0 (by simp), K.out.cell x1 (by simp), K.out.cell f0 (by simp), K.out.cell f1 (by simp)⟩)) (first
   | (go_at_call 52; go_must (refine (spaceWithout_any S.1 [] q _ _ _ _ (HS.out.1.kept (gT HB.out.grown (by first | exact gD _ _ | exact K.out | exact gT K.out (gA _ _ none)))) (rows_nil _) (fun r hr => by cases hr) hql (by omega) (by simp) HGs.out (fun r hr => by cases hr)).mono ?_; rintro e w6 ⟨sv6, kv6, rfl, hs6, hr6, hg6⟩; have hs6 : SidesAt w6 sv6 L := (by rw [HL.out]; exact hs6); obtain ⟨pu, ucap, rfl, _⟩ := id hs6; obtain ⟨pw, wcap, rfl, _⟩ := id hr6; have K : Hid (w3.grownBy w6 none) := uH (gT (by first | exact gD _ _ | exact K.out | exact gT K.out (gA _ _ none)) hg6); have HS6 := uH hs6; clear hs6 hr6 hg6))
   | (go_at_call 55; go_must (refine (affForm_any c ts L _ _ _ (HTs.out.kept (gT HB.out.grown (by first | exact gD _ _ | exact K.out | exact gT K.out (gA _ _ none)))) (by first | exact HS6.out | exact HS6.out.kept (gD _ none))).mono ?_; rintro e w7 ⟨rfl, hg7⟩; rw [HA.out]; have K : Hid (w3.grownBy w7 none) := uH (gT (by first | exact gD _ _ | exact K.out | exact gT K.out (gA _ _ none)) hg7); clear hg7)))
  all_goals
   go_wp2_with fail
   go_meet
   case rel => exact ⟨rfl, by first | exact K | exact uH (gT K.out (gD _ none))⟩
 case rest =>
  obtain ⟨rfl, K⟩ := hcut
  clear hfl
  have HB4 := uH (HB.out.kept K.out)
  have HF4 := uH (kH HFo.out K.out (by simp))
  have HK4 := uH (HK.out.kept K.out)
  clear x0 x1 f0 f1
  obtain ⟨x0, x1, _⟩ := cO HB4.out.box
  obtain ⟨f0, f1, _⟩ := cO HF4.out
  go_upto_region 9 with (go_at_call 56; go_must (refine (rowOf_any c ts S.1 _ _ _ (HTs.out.kept HB4.out.grown) (HS.out.1.kept HB4.out.grown) HIn.out (by omega)).mono ?_; rintro e w6 ⟨Cb, rfl, hC, hcb, hg6⟩; have ga6 := gA w6 (.cells #[.int .i64 c, .slice (some ⟨Cb, 0, none⟩) S.1.length S.1.length] 86) none; have HB6 := uH (HB4.out.kept (gT hg6 ga6)); have HK6 := uH (HK4.out.kept (gT hg6 ga6)); have HC6 := uH (kH hcb ga6 (by simp)); have HP6 := uH (heap_alloc_new w6 (.cells #[.int .i64 c, .slice (some ⟨Cb, 0, none⟩) S.1.length S.1.length] 86)); clear hC hcb hg6 ga6 x0 x1 f0 f1))
  generalize hP : w6.heap.size = P at *
  generalize w6.alloc (.cells #[.int .i64 c, .slice (some ⟨Cb, 0, none⟩) S.1.length S.1.length] 86) = w7 at *
  obtain ⟨x0, x1, _⟩ := cO HB6.out.box
  clear hP
  go_wp2_with (go_at_call 54; go_must (refine (withEnds_any S.1 (rowsOf S) q s _ _ _ (HS.out.1.kept HB6.out.grown) HK6.out HQ.out (by omega) (by omega) HMd.out).mono ?_; rintro e w8 ⟨kv8, rfl, hr8, hg8⟩; have hr8 : RowLC w8 kv8 R1 True := (by rw [HR1.out]; exact hr8); obtain ⟨pe, ecap, rfl, hei⟩ := id hr8; have HB8 := uH (HB6.out.kept hg8); have HC8 := uH (kH HC6.out hg8 (by simp)); have HP8 := uH (kH HP6.out hg8 (by simp)); have HE8 := uH hei; clear hr8 hg8 hei x0 x1))
  have HI8 : Hid (IntsAt w8 (.slice (some ⟨Cb, 0, none⟩) S.1.length S.1.length) pr.2) := by
   have h := ints_of_block (xs := pr.2) S.1.length (w := w8) (b := Cb) (by rw [HPr.out]; exact HC8.out) (by rw [HPl.out]; omega) (fun z hz => by have := HPg.out.2.2 z hz; omega)
   rwa [HPl.out] at h
  clear HC8 HC6 HP6 HK6 HK4 HF4 HB4 HB6
  go_loopw [45, 13] (fun i s13 wr => ∃ (k : Nat) (kv : Value) (st : List RowD) (cvs : List Value), k ≤ R1.length ∧ i = .int .i64 k ∧ s13 = kv ∧ Hid (st = (R1.take k).map (putR q pr)) ∧ st.length ≤ k ∧ Hid (w8.grownBy wr none) ∧ Hid (RW wr w8.heap.size kv st cvs True)) (fun i _ _ => R1.length - (intOf i).toNat)
  case atStart => exact ⟨0, _, [], [], Nat.zero_le _, rfl, rfl, by show _ = _; simp, Nat.zero_le _, gR _ _, RW.start _ _ _⟩
  case round =>
   obtain ⟨k, kv, st, cvs, hk, rfl, rfl, HSt, hst, HGr, HW⟩ := hrel
   by_cases hlt : k < R1.length
   · have h0 := List.getElem?_eq_getElem hlt
     obtain ⟨bk, ok, pr0, rcap, rfl, c1, c2, _, hik⟩ := HE8.out.cells k _ h0
     have c1 := HGr.out.cell c1 (by simp)
     have c2 := HGr.out.cell c2 (by simp)
     have HI := uH hik
     have HMr := uH (HG1.out _ (List.getElem_mem hlt))
     have HTk := uH (List.take_succ_eq_append_getElem hlt)
     generalize R1[k] = r at *
     have hI1 : (k : Int) < (R1.length : Int) := by omega
     have hqr : r.2[q]? = some (coefAt q r) := by
      unfold coefAt
      rw [List.getD_eq_getElem?_getD, List.getElem?_eq_getElem (by rw [HMr.out.1]; exact hql)]
      rfl
     obtain ⟨bi, oi, rfl, _, cr⟩ := hik.at_ hqr
     have HCr := uH cr
     have HXr : Hid (-1000 ≤ coefAt q r ∧ coefAt q r ≤ 1000) := HMr.out.2.2 _ (List.mem_of_getElem? hqr)
     have HPd := uH (put_good (q := q) HPg.out HMr.out)
     obtain ⟨d, hd⟩ : ∃ d, d = putR q pr r := ⟨_, rfl⟩
     have HDe := uH hd
     have HPd : Hid (bigRow S.1.length d) := by rw [hd]; exact HPd.out
     have HSu := uH (fun (W : World) (h1 : IntsAt W _ r.2) (h2 : IntsAt W _ pr.2) => sum_put S.1.length q pr r d hd c HP0.out (.slice (some ⟨bi, oi, none⟩) r.2.length rcap) (.slice (some ⟨Cb, 0, none⟩) S.1.length S.1.length) W h1 h2 (by omega) HMr.out HPg.out)
     clear hd
     generalize hX : coefAt q r = xr at *
     have HXe := uH hX
     have hIr : (q : Int) < (r.2.length : Int) := by rw [HMr.out.1]; omega
     have hga := gA wr (.cells #[.int .i64 r.1, .slice (some ⟨bi, oi, none⟩) r.2.length rcap] 86) none
     have HGa := uH (gT hga (gD _ none))
     have hPw := kH HP8.out HGr.out (by simp)
     have HPw := uH hPw
     obtain ⟨p0, p1, _⟩ := cO hPw
     have p0 := hga.cell p0 (by simp)
     have p1 := hga.cell p1 (by simp)
     have cr1 := (gT HGr.out hga).cell HCr.out (by simp)
     have hPl : P < wr.heap.size := (Array.getElem?_eq_some_iff.1 hPw).1
     have hsr := HGr.out.size
     have HRl := uH HMr.out.1
     clear h0 hik hqr cr hga hX hPw
     go_wp2
     refine wp_last fun K8 hK8 => ?_
     go_cut [13] from 49 to 59 (fun s13 wx => ∃ (p' : Option Addr) (cap' : Nat) (cv : Value), s13 = .slice p' (st.length + 1) cap' ∧ Hid (w8.grownBy wx none) ∧ Hid (RW wx w8.heap.size (.slice p' (st.length + 1) cap') (st ++ [d]) (cvs ++ [cv]) True))
     case first =>
      go_region_held3 (fun W => W.cell? ⟨P, 0, none⟩ = some (.int .i64 c) ∧ W.cell? ⟨P, 1, none⟩ = some (.slice (some ⟨Cb, 0, none⟩) S.1.length S.1.length) ∧ W.cell? ⟨wr.heap.size, 0, none⟩ = some (.int .i64 r.1) ∧ W.cell? ⟨wr.heap.size, 1, none⟩ = some (.slice (some ⟨bi, oi, none⟩) r.2.length rcap) ∧ W.cell? ⟨bi, oi + q, none⟩ = some (.int .i64 xr)) (first | go_keep | exact ⟨x1, x2, x3, x4, x5⟩) (first
       | (go_at_call 57; go_must (refine (HSu.out _ (HI.out.kept (gT HGr.out HGa.out)) (HI8.out.kept (gT HGr.out HGa.out))).mono ?_; rintro e w4 ⟨Db, rfl, hCb, hcb, hg4⟩; have HCb := uH hcb; have HCl := uH hCb; have HG4 := uH (gT HGa.out hg4); have HD4 := uH hg4; have x1 := hg4.cell p0 (by simp); have x2 := hg4.cell p1 (by simp); have x3 : w4.cell? ⟨wr.heap.size, 0, none⟩ = some (.int .i64 r.1) := hg4.cell (by simp) (by simp); have x4 : w4.cell? ⟨wr.heap.size, 1, none⟩ = some (.slice (some ⟨bi, oi, none⟩) r.2.length rcap) := hg4.cell (by simp) (by simp); have x5 := hg4.cell cr1 (by simp); clear hcb hCb hg4))
       | (refine step_append_lies _ (by rfl) _ _ 79 (by rfl) w8.heap.size 86 j0 (.agg #[.int .i64 0, .slice none 0 0]) 2 32 Tryz.underlying79 hj0 hy0 hy1 hy2 (by rfl) (by decide) _ st.length ((st.zip cvs).flatMap rowCells) (by rfl) (World.ownsRow.alloc (owns_kept HW.out.row HG4.out) _) ⟨w4.heap.size, 0, none⟩ 1 1 (rowCells (d, .slice (some ⟨Db, 0, none⟩) r.2.length r.2.length)) (by rfl) (by rfl) news_at (by simp [rowCells, Value.oneCell']) (by decide) (by unfold maxLen; omega) (by omega) (by have := HG4.out.size; simp; omega) (w4.heap.size + 1) (by simp) ?_; intro g' ncap w5 hown5 hgrow5 hat _; have G5 := uH hgrow5; have O5 := uH hown5; have A5 := uH hat; have hw5 := gO (gT HGr.out (gT HG4.out (gA _ _ none))) hgrow5 (fun k hk => (HW.out.row.lt k hk).1); have HW5 := uH hw5; obtain ⟨x1, x2, _⟩ := cO (kH HP8.out hw5 (by simp)); have hbq := kH (r := Value.ownBlock _) (heap_alloc_new wr (.cells #[.int .i64 r.1, .slice (some ⟨bi, oi, none⟩) r.2.length rcap] 86)) (gT (grownBy_any _ (gD _ none)) (gT (grownBy_any _ (gT HD4.out (gA _ _ none))) hgrow5)) (fun e => by have := (HW.out.row.lt _ e).2; omega); obtain ⟨x3, x4, _⟩ := cO hbq; have x5 := hw5.cell HCr.out (by simp); clear hown5 hgrow5 hat hw5 hbq))
      all_goals
       have hcl : wr.heap.size + 1 ≤ Db := by have h := HCl.out; simpa using h
       have hdl : (d).2.length = r.2.length := by rw [HPd.out.1, HRl.out]
       have hcvx : ∃ p cap, Value.slice (some ⟨Db, 0, none⟩) r.2.length r.2.length = .slice p (d).2.length cap ∧ (True → (d).2.length ≤ cap) ∧ ∀ w2, w4.grownBy w2 (Value.ownBlock u13) → IntsAt w2 (.slice (some ⟨Db, 0, none⟩) r.2.length r.2.length) (d).2 :=
        ⟨some ⟨Db, 0, none⟩, r.2.length, by rw [hdl], fun _ => by rw [hdl]; exact Nat.le_refl _, fun w2 h2 => by
          have h := ints_of_block (xs := (d).2) r.2.length (kH (HCb.out) h2 (fun e => by have := (HW.out.row.lt _ e).2; omega)) (by rw [hdl, HRl.out]; omega) (fun z hz => by have := HPd.out.2.2 z hz; omega)
          rwa [hdl] at h⟩
       have hp := RW.push (g := g') (cap := ncap) (r := d) HW.out HG4.out hcvx G5.out O5.out (by rcases A5.out with h | h; exact .inl h; exact .inr (by omega))
       have HPp := uH hp
       clear hp hcvx hcl hdl x1 x2 x3 x4 x5
       go_wp2_with fail
       go_meet
       case rel => exact ⟨some ⟨g', 0, none⟩, ncap, _, rfl, HW5.out, HPp.out⟩
     case rest =>
      obtain ⟨p', cap', cv, rfl, HGx, HWx⟩ := hcut
      refine hK8 _ _ ?_
      go_wp2
      go_roundw
      case rel => exact ⟨k + 1, _, st ++ [d], cvs ++ [cv], by omega, by go_num, rfl, by show _ = _; rw [HTk.out, HSt.out, List.map_append, HDe.out]; rfl, by simp; omega, HGx.out, HWx.out⟩
      case measure => simp [intOf]; omega
   · obtain rfl : k = R1.length := by omega
     have HS5 : Hid (st = R5) := by
      have h := HSt.out
      rw [List.take_length] at h
      show _ = _
      rw [h, HR5.out]
     have HB9 := uH (HB8.out.kept HGr.out)
     have hRW := HW.out.rowsIn (by omega)
     rw [HS5.out] at hRW
     obtain ⟨pv, vcap, rfl, _⟩ := id hRW
     have HRW := uH hRW
     obtain ⟨x0, x1, _⟩ := cO HB9.out.box
     clear hRW
     go_wp2_with (first
      | (go_at_call 52; go_must (refine (spaceWithout_any S.1 R5 q _ _ _ _ (HS.out.1.kept HB9.out.grown) HRW.out (fun r hr => (HG5.out r hr).1) hql (by omega) (by omega) HGs.out (fun r hr => (big_mid (HG5.out r hr)).2)).mono ?_; rintro e w6 ⟨sv6, kv6, rfl, hs6, hr6, hg6⟩; have hs6 : SidesAt w6 sv6 L := (by rw [HL.out]; exact hs6); have hr6 : RowLC w6 kv6 R6 True := (by rw [HR6.out]; exact hr6); obtain ⟨pu, ucap, rfl, _⟩ := id hs6; obtain ⟨pw, wcap, rfl, _⟩ := id hr6; have HB10 := uH (HB9.out.kept hg6); have HS10 := uH hs6; have HR10 := uH hr6; clear hs6 hr6 hg6 x0 x1))
      | (go_at_call 45; go_must (refine (spaceSet_any L R6 _ _ _ HS10.out HR10.out.rows (fun r hr => (HG6.out r hr).1) (by omega) (by omega) HAp.out HNe.out HGd.out (fun r hr => big_small (HG6.out r hr))).mono ?_; rintro e w11 hso; obtain ⟨fl, p6, c6, p7, c7, htw, hg11, rfl, hset⟩ := SetOut.res hso; have HTw := uH htw; have HB11 := uH (HB10.out.kept hg11); have HOk := uH hset; clear hso htw hg11 hset; obtain ⟨r0, r1, rf⟩ := cO HB11.out.res)))
     obtain ⟨D1, D2, D3⟩ := HB11.out.done (.slice p6 (okSet (L, fl)).1.length c6) (.slice p7 (okSet (L, fl)).2.length c7)
     exact bodyPost_ret (results_set rfl _ _ (w.heap.size + 2) _ _ _ _ rfl D3) rfl ⟨fl, HTw.out, D1, _, _, rfl, HOk.out _ _ (fun k hk => by cases hk; exact (Array.getElem?_eq_some_iff.1 HB10.out.res).1) D2⟩
end Go.Proofs.YtgeklmigfhhpfaaGreatDoor
namespace Go.Proofs.YtgeklmigfhhpfaaGreatDoor
open Go.RowKit
attribute [local go_sem ↓] Go.wp_at_zero Go.wp_at_succ
theorem place_get {l : List SideD} {x : ByteArray} (h : nameErr (namesOf l) x = 0) : ∃ (q : Nat) (s : SideD), firstI (sameName x) l = (q : Int) ∧ l[q]? = some s ∧ s.1 = x := by
 have hc : l.any (sameName x) = true := by
  rw [sameName_any]
  unfold nameErr at h
  by_cases h1 : nameB x = true
  · rw [if_pos h1] at h
    by_cases h2 : containsB (namesOf l) x = true
    · exact h2
    · rw [if_neg h2] at h; cases h
  · rw [if_neg h1] at h; cases h
 unfold firstI
 cases hf : l.findIdx? (sameName x) with
 | none =>
   rw [List.findIdx?_eq_none_iff] at hf
   obtain ⟨s, hs, he⟩ := List.any_eq_true.1 hc
   rw [hf s hs] at he
   cases he
 | some q =>
   obtain ⟨h1, h2, _⟩ := List.findIdx?_eq_some_iff_getElem.1 hf
   exact ⟨q, l[q], rfl, List.getElem?_eq_getElem h1, sameName_iff.1 h2⟩
set_option maxRecDepth 100000 in
set_option maxHeartbeats 4000000 in
theorem mapped_err (S : List SideD × List CondD) (x : ByteArray) (c : Int) (ts : List (ByteArray × Int)) (sv cv tv : Value) (w : World) (hx : x.size ≤ maxLen) (hS : SetAt w sv cv S) (ht : TermsAt w tv ts) (hE : placeErr S x ≠ 0) :
  Calls Tryz.prog 13 #[.agg #[sv, cv], .string x, .agg #[.int .i64 c, tv]] w (ErrRes (placeErr S x) w) := by
 obtain ⟨ps, scap, rfl, _⟩ := id hS.1
 obtain ⟨pc, ccap, rfl, _⟩ := id hS.2
 obtain ⟨pt, tcap, rfl, _⟩ := id ht
 have HS := uH hS
 have hE0 : (placeErr S x != 0) = true := by simpa using hE
 have HE := uH hE
 have HG0 := uH (gT (gA w (.cells #[.slice ps S.1.length scap, .slice pc S.2.length ccap] 29) none) (gT (gA _ (.cells #[.int .i64 c, .slice pt ts.length tcap] 35) none) (gA _ (.cells #[.slice none 0 0, .slice none 0 0] 29) none)))
 clear hS hE ht
 go_enter Tryz.func13, Tryz.ntmps13
 go_wp2_with (go_at_call 51; go_must (refine (spaceAndPlace_any S x _ _ _ hx (HS.out.kept HG0.out)).mono ?_; rintro e w2 hpl; have hg := hpl.1; obtain rfl := place_bad hpl HE.out; have HB := uH (map_start (sv := .slice none 0 0) (kv := .slice none 0 0) hg).1; clear hg hpl; obtain ⟨r0, r1, rf⟩ := cO HB.out.res))
 obtain ⟨D1, D2, D3⟩ := HB.out.done (.slice none 0 0) (.slice none 0 0)
 exact bodyPost_ret (results_set rfl _ _ (w.heap.size + 2) _ _ _ _ rfl D3) rfl ⟨D1, rfl⟩
set_option maxRecDepth 100000 in
set_option maxHeartbeats 8000000 in
theorem mapped_err2 (S : List SideD × List CondD) (x : ByteArray) (q : Nat) (s : SideD) (c : Int) (ts : List (ByteArray × Int)) (L : List SideD) (hL : L = S.1.eraseIdx q)
  (sv cv tv : Value) (w : World) (hx : x.size ≤ maxLen) (hS : SetAt w sv cv S) (ht : TermsAt w tv ts) (hE : setErr S = 0) (hN : nameErr (namesOf S.1) x = 0) (hq : S.1[q]? = some s) (hf : firstI (sameName x) S.1 = (q : Int)) (hA : aroundErr (namesOf L) (c, ts) ≠ 0) :
  Calls Tryz.prog 13 #[.agg #[sv, cv], .string x, .agg #[.int .i64 c, tv]] w (ErrRes (aroundErr (namesOf L) (c, ts)) w) := by
 obtain ⟨ps, scap, rfl, _⟩ := id hS.1
 obtain ⟨pc, ccap, rfl, _⟩ := id hS.2
 obtain ⟨pt, tcap, rfl, _⟩ := id ht
 have HS := uH hS
 have HTs := uH ht
 have HE := uH hE
 have HN := uH hN
 have HF := uH hf
 have HL := uH hL
 have hA0 : (aroundErr (namesOf L) (c, ts) != 0) = true := by simpa using hA
 have HA := uH hA
 have hn8 := (set_good hE).1
 have hn60 := rows_len hE
 have hql : q < S.1.length := (List.getElem?_eq_some_iff.1 hq).1
 obtain ⟨d1, d2, d3, d4⟩ := set_sides hE
 have HGs := uH d3
 have HG0 := uH (gT (gA w (.cells #[.slice ps S.1.length scap, .slice pc S.2.length ccap] 29) none) (gT (gA _ (.cells #[.int .i64 c, .slice pt ts.length tcap] 35) none) (gA _ (.cells #[.slice none 0 0, .slice none 0 0] 29) none)))
 clear hS ht hE hN hq hf hL d1 d2 d3 d4 hA
 generalize hz : aroundErr (namesOf L) (c, ts) = z at *
 have HZ := uH hz
 clear hz
 go_enter Tryz.func13, Tryz.ntmps13
 go_upto_region 4 with (go_at_call 51; go_must (refine (spaceAndPlace_any S x _ _ _ hx (HS.out.kept HG0.out)).mono ?_; rintro e w2 ⟨hg, _, _, hok⟩; obtain ⟨kv, cvs, he, hk⟩ := hok HE.out HN.out; rw [HF.out] at he; subst he; obtain ⟨pk, kcap, rfl⟩ := own_form hk.row; obtain ⟨hb, hfo⟩ := map_start (sv := .slice ps S.1.length scap) (kv := .slice pk (rowsOf S).length kcap) hg; have HB := uH hb; have HFo := uH hfo; have HK := uH ((hk.room (n := S.1.length) (by omega) (by omega) (rows_good HE.out)).kept (gA w2 (.cells #[.slice ps S.1.length scap, .slice pk (rowsOf S).length kcap] 81) none)); clear hg hok hk hb hfo))
 generalize w2.alloc (.cells #[.slice ps S.1.length scap, .slice pk (rowsOf S).length kcap] 81) = w3 at *
 generalize w2.heap.size = X at *
 obtain ⟨x0, x1, _⟩ := cO HB.out.box
 obtain ⟨f0, f1, _⟩ := cO HFo.out
 have hX3 : X < w3.heap.size := (Array.getElem?_eq_some_iff.1 HB.out.box).1
 have hw3 : w.heap.size + 2 < w3.heap.size := (Array.getElem?_eq_some_iff.1 HB.out.res).1
 have hfl := Tryz.fieldSpace
 go_cut [11] (fun s11 wx => s11 = .int .i64 z ∧ Hid (w3.grownBy wx none))
 case first =>
  go_region_held3 (fun W => W.cell? ⟨X, 0, none⟩ = some (.slice ps S.1.length scap) ∧ W.cell? ⟨X, 1, none⟩ = some (.slice pk (rowsOf S).length kcap) ∧ W.cell? ⟨w.heap.size + 1, 0, none⟩ = some (.int .i64 c) ∧ W.cell? ⟨w.heap.size + 1, 1, none⟩ = some (.slice pt ts.length tcap)) (first
   | go_keep
   | (with_reducible exact ⟨K.out.cell x0 (by simp), K.out.cell x1 (by simp), K.out.cell f0 (by simp), K.out.cell f1 (by simp)⟩)) (first
   | (go_at_call 52; go_must (refine (spaceWithout_any S.1 [] q _ _ _ _ (HS.out.1.kept (gT HB.out.grown (by first | exact gD _ _ | exact K.out | exact gT K.out (gA _ _ none)))) (rows_nil _) (fun r hr => by cases hr) hql (by omega) (by simp) HGs.out (fun r hr => by cases hr)).mono ?_; rintro e w6 ⟨sv6, kv6, rfl, hs6, hr6, hg6⟩; have hs6 : SidesAt w6 sv6 L := (by rw [HL.out]; exact hs6); obtain ⟨pu, ucap, rfl, _⟩ := id hs6; obtain ⟨pw, wcap, rfl, _⟩ := id hr6; have K : Hid (w3.grownBy w6 none) := uH (gT (by first | exact gD _ _ | exact K.out | exact gT K.out (gA _ _ none)) hg6); have HS6 := uH hs6; clear hs6 hr6 hg6))
   | (go_at_call 55; go_must (refine (affForm_any c ts L _ _ _ (HTs.out.kept (gT HB.out.grown (by first | exact gD _ _ | exact K.out | exact gT K.out (gA _ _ none)))) (by first | exact HS6.out | exact HS6.out.kept (gD _ none))).mono ?_; rintro e w7 ⟨rfl, hg7⟩; rw [HZ.out]; have K : Hid (w3.grownBy w7 none) := uH (gT (by first | exact gD _ _ | exact K.out | exact gT K.out (gA _ _ none)) hg7); clear hg7)))
  all_goals
   go_wp2_with fail
   go_meet
   case rel => exact ⟨rfl, by first | exact K | exact uH (gT K.out (gD _ none))⟩
 case rest =>
  obtain ⟨rfl, K⟩ := hcut
  clear hfl x0 x1 f0 f1
  have HB4 := uH (HB.out.kept K.out)
  obtain ⟨r0, r1, rf⟩ := cO HB4.out.res
  go_wp2
  obtain ⟨D1, D2, D3⟩ := HB4.out.done (.slice none 0 0) (.slice none 0 0)
  exact bodyPost_ret (results_set rfl _ _ (w.heap.size + 2) _ _ _ _ rfl D3) rfl ⟨D1, rfl⟩
end Go.Proofs.YtgeklmigfhhpfaaGreatDoor
