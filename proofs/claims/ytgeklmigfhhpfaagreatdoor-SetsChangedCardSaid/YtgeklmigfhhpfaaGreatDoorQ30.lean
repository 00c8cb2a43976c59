/-
 The conditions of a side: two tables, filled in any order, as forms.
-/
import Derived.Deep.DeepMust
import Derived.Test.YtgeklmigfhhpfaaGreatDoorQ12
import Derived.Test.YtgeklmigfhhpfaaGreatDoorQ20
import Derived.Test.YtgeklmigfhhpfaaGreatDoorQ27
import Derived.Test.YtgeklmigfhhpfaaGreatDoorQ28
import Derived.Test.YtgeklmigfhhpfaaGreatDoorQ29
namespace Go.Proofs.YtgeklmigfhhpfaaGreatDoor
open Go.RowKit Go.Maps Go.WideMaps
attribute [local go_sem ↓] Go.wp_at_zero Go.wp_at_succ
def SideCOut (s : SideD) (w : World) (e : Ending) (w' : World) : Prop := ∃ kv tvs, e = .returned kv ∧ CW w' w.heap.size kv (sideC s) tvs ∧ w.grownBy w' none
def oneX (x : ByteArray) (z c : Int) (m : ByteArray) : Int := if m = ByteArray.empty then c else if m = x then z else 0
theorem oneX_form {x : ByteArray} {z c : Int} (hx : x ≠ ByteArray.empty) (hz : z ≠ 0) {us : List TermD} (h : FormX (oneX x z c) (oneX x z c ByteArray.empty) (oneX x z c ByteArray.empty, us)) : oneX x z c ByteArray.empty = c ∧ us = [(x, z)] := by
 have h0 : oneX x z c ByteArray.empty = c := if_pos rfl
 rw [h0] at h
 refine ⟨h0, ?_⟩
 have := formX_eq h (one_formX (c := c) hx hz) (fun n hn => by
  unfold oneX
  rw [if_neg hn]
  by_cases e : n = x
  · rw [if_pos e, if_pos e.symm]
  · rw [if_neg e, if_neg (fun h => e h.symm)])
 exact (Prod.mk.inj this).2
theorem TabW.form {X : ByteArray → Int} {B n : Nat} {w : World} (h : TabW w B n X) (hn : n ≤ 900) : Calls Tryz.prog 67 #[.map (some B)] w (TabFormed X w) := by
 obtain ⟨D, h1, h2⟩ := h
 exact tabForm_any X D B n w h1 h2 hn
theorem oneX_a {x : ByteArray} {z c : Int} (m : ByteArray) : (if m = ByteArray.empty then c else if m = x then z else 0) = oneX x z c m := rfl
theorem oneX_b {x : ByteArray} {z c : Int} (hx : x ≠ ByteArray.empty) (m : ByteArray) : (if m = x then z else if m = ByteArray.empty then c else 0) = oneX x z c m := by
 unfold oneX
 by_cases e : m = x
 · subst e
   simp [hx]
 · simp [e]
theorem terms_beside {w w' : World} {tv : Value} {ts : List (ByteArray × Int)} {N n : Nat} {X : ByteArray → Int} (h : TermsAt w tv ts) (hm : TabW w N n X) (hg : w.grownBy w' (some N)) : TermsAt w' tv ts := by
 obtain ⟨p, cap, rfl, hl, hc⟩ := h
 obtain ⟨D, ⟨es, clock, hb, _⟩, _⟩ := hm
 refine ⟨p, cap, rfl, hl, fun j t hj => ?_⟩
 obtain ⟨b, off, hp, h1, h2, h3, h4, h5⟩ := hc j t hj
 have hne : b ≠ N := fun e => by
  subst e
  simp [World.cell?, hb] at h4
 exact ⟨b, off, hp, h1, h2, h3, hg.cell h4 (by simpa using fun e => hne e), hg.cell h5 (by simpa using fun e => hne e)⟩
set_option maxRecDepth 100000 in
set_option maxHeartbeats 8000000 in
theorem sideConds_any (l : List SideD) (x : ByteArray) (q : Nat) (s : SideD) (sv cv : Value) (w : World) (hs : SidesAt w sv l) (hq : firstI (sameName x) l = (q : Int)) (hsq : l[q]? = some s) (hsx : s.1 = x) (hg : small s.2.1 ∧ small s.2.2) (hne : x ≠ ByteArray.empty) (hxs : x.size ≤ 100) :
  Calls Tryz.prog 74 #[.agg #[sv, cv], .string x] w (SideCOut s w) := by
 obtain ⟨ps, scap, rfl, ⟨hlen, hcap⟩, hsc⟩ := id hs
 have HS := uH hs
 obtain ⟨b, off, rfl, h3, ⟨h4, h4'⟩, ⟨h5, h5'⟩, h6, h7, h8⟩ := hsc q s hsq
 have hql : q < l.length := (List.getElem?_eq_some_iff.1 hsq).1
 have HQ := uH hsq
 have HNe := uH hne
 obtain ⟨sn, lo, hi⟩ := s
 obtain ⟨⟨g1, g2⟩, g3, g4⟩ := hg
 simp only at hsx h3 h4 h4' h5 h5' h6 h7 h8 g1 g2 g3 g4
 subst hsx
 have HF := uH hq
 have HI := uH (fun (v : Value) (P : Nat) (W : World) (h1 : SidesAt W v l) (h2 : W.cell? ⟨P, 0, none⟩ = some (.string sn)) => indexSide_any v l sn P W h1 h2)
 rw [hq] at HI
 clear hs hsc hsq hne hq
 go_enter Tryz.func74, Tryz.ntmps74
 go_upto_region 1 with fail
 have hg1 : w.grownBy ((w.alloc (.cells #[.slice (some ⟨b, off, none⟩) l.length scap, cv] 29)).alloc (.cells #[.string sn] 9)) none := gT (gA _ _ _) (gA _ _ _)
 have c0 : ((w.alloc (.cells #[.slice (some ⟨b, off, none⟩) l.length scap, cv] 29)).alloc (.cells #[.string sn] 9)).cell? ⟨w.heap.size, 0, none⟩ = some (.slice (some ⟨b, off, none⟩) l.length scap) := (gA _ _ none).cell (by simp) (by simp)
 have x0 : ((w.alloc (.cells #[.slice (some ⟨b, off, none⟩) l.length scap, cv] 29)).alloc (.cells #[.string sn] 9)).cell? ⟨w.heap.size + 1, 0, none⟩ = some (.string sn) := by simp
 have HG1 := uH hg1
 clear hg1
 generalize (w.alloc (.cells #[.slice (some ⟨b, off, none⟩) l.length scap, cv] 29)).alloc (.cells #[.string sn] 9) = W1 at *
 go_upto_region 2 with (first | (go_at_call 115; go_must (refine (HI.out _ (w.heap.size + 1) _ (HS.out.kept HG1.out) x0).mono ?_; rintro e w2 ⟨rfl, hg2⟩; have HG2 := uH hg2; clear hg2)))
 have C0 := uH (HG2.out.cell c0 (by simp))
 have X0 := uH (HG2.out.cell x0 (by simp))
 have C7 := uH ((gT HG1.out HG2.out).cell h7 (by simp))
 have C8 := uH ((gT HG1.out HG2.out).cell h8 (by simp))
 have HS0 : Hid (w2.grownBy w2.drew none) := gD _ _
 have hwl : IntKind.i64.wrap (-lo) = -lo := wrap_near (by omega)
 clear c0 x0 h6 h7 h8
 refine region_late (n := 25) (S := fun W => w2.grownBy W none) (by kernel_rfl) ⟨by kernel_rfl, by kernel_rfl, by kernel_rfl, by decide⟩ ?_
 refine late_take (i := 1) (v := ?v1) ⟨by kernel_rfl, by kernel_rfl, by kernel_rfl, by decide⟩ rfl (by decide +kernel) (by decide +kernel) (by decide +kernel) (fun _ _ _ h => h) (Or.inl ⟨by rfl, ?h1⟩) HS0.out ?r1
 case h1 =>
  intro W hW
  have t0 := hW.cell C0.out (by simp)
  have t1 := hW.cell X0.out (by simp)
  have t7 := hW.cell C7.out (by simp)
  have t8 := hW.cell C8.out (by simp)
  go_simp
  with_reducible rfl
 go_frame
 refine late_take (i := 3) (v := ?v3) ⟨by kernel_rfl, by kernel_rfl, by kernel_rfl, by decide⟩ rfl (by decide +kernel) (by decide +kernel) (by decide +kernel) (fun _ _ _ h => h) (Or.inl ⟨by rfl, ?h3⟩) HS0.out ?r3
 case h3 =>
  intro W hW
  have t0 := hW.cell C0.out (by simp)
  have t1 := hW.cell X0.out (by simp)
  have t7 := hW.cell C7.out (by simp)
  have t8 := hW.cell C8.out (by simp)
  go_simp
  with_reducible rfl
 go_frame
 refine late_take (i := 4) (v := ?v4) ⟨by kernel_rfl, by kernel_rfl, by kernel_rfl, by decide⟩ rfl (by decide +kernel) (by decide +kernel) (by decide +kernel) (fun _ _ _ h => h) (Or.inl ⟨by rfl, ?h4⟩) HS0.out ?r4
 case h4 =>
  intro W hW
  have t0 := hW.cell C0.out (by simp)
  have t1 := hW.cell X0.out (by simp)
  have t7 := hW.cell C7.out (by simp)
  have t8 := hW.cell C8.out (by simp)
  go_simp
  with_reducible rfl
 go_frame
 refine late_take (i := 5) (v := ?v5) ⟨by kernel_rfl, by kernel_rfl, by kernel_rfl, by decide⟩ rfl (by decide +kernel) (by decide +kernel) (by decide +kernel) (fun _ _ _ h => h) (Or.inl ⟨by rfl, ?h5⟩) HS0.out ?r5
 case h5 =>
  intro W hW
  have t0 := hW.cell C0.out (by simp)
  have t1 := hW.cell X0.out (by simp)
  have t7 := hW.cell C7.out (by simp)
  have t8 := hW.cell C8.out (by simp)
  go_simp
  with_reducible rfl
 go_frame
 refine late_take (i := 6) (v := ?v6) ⟨by kernel_rfl, by kernel_rfl, by kernel_rfl, by decide⟩ rfl (by decide +kernel) (by decide +kernel) (by decide +kernel) (fun _ _ _ h => h) (Or.inl ⟨by rfl, ?h6⟩) HS0.out ?r6
 case h6 =>
  intro W hW
  have t0 := hW.cell C0.out (by simp)
  have t1 := hW.cell X0.out (by simp)
  have t7 := hW.cell C7.out (by simp)
  have t8 := hW.cell C8.out (by simp)
  go_simp
  with_reducible rfl
 go_frame
 refine late_take (i := 7) (v := ?v7) ⟨by kernel_rfl, by kernel_rfl, by kernel_rfl, by decide⟩ rfl (by decide +kernel) (by decide +kernel) (by decide +kernel) (fun _ _ _ h => h) (Or.inl ⟨by rfl, ?h7⟩) HS0.out ?r7
 case h7 =>
  intro W hW
  have t0 := hW.cell C0.out (by simp)
  have t1 := hW.cell X0.out (by simp)
  have t7 := hW.cell C7.out (by simp)
  have t8 := hW.cell C8.out (by simp)
  go_simp
  with_reducible rfl
 go_frame
 refine late_take (i := 8) (v := ?v8) ⟨by kernel_rfl, by kernel_rfl, by kernel_rfl, by decide⟩ rfl (by decide +kernel) (by decide +kernel) (by decide +kernel) (fun _ _ _ h => h) (Or.inl ⟨by rfl, ?h8⟩) HS0.out ?r8
 case h8 =>
  intro W hW
  have t0 := hW.cell C0.out (by simp)
  have t1 := hW.cell X0.out (by simp)
  have t7 := hW.cell C7.out (by simp)
  have t8 := hW.cell C8.out (by simp)
  go_simp
  with_reducible rfl
 go_frame
 refine late_take (i := 9) (v := ?v9) ⟨by kernel_rfl, by kernel_rfl, by kernel_rfl, by decide⟩ rfl (by decide +kernel) (by decide +kernel) (by decide +kernel) (fun _ _ _ h => h) (Or.inl ⟨by rfl, ?h9⟩) HS0.out ?r9
 case h9 =>
  intro W hW
  have t0 := hW.cell C0.out (by simp)
  have t1 := hW.cell X0.out (by simp)
  have t7 := hW.cell C7.out (by simp)
  have t8 := hW.cell C8.out (by simp)
  go_simp
  with_reducible rfl
 go_frame
 refine late_take (i := 14) (v := ?v14) ⟨by kernel_rfl, by kernel_rfl, by kernel_rfl, by decide⟩ rfl (by decide +kernel) (by decide +kernel) (by decide +kernel) (fun _ _ _ h => h) (Or.inl ⟨by rfl, ?h14⟩) HS0.out ?r14
 case h14 =>
  intro W hW
  have t0 := hW.cell C0.out (by simp)
  have t1 := hW.cell X0.out (by simp)
  have t7 := hW.cell C7.out (by simp)
  have t8 := hW.cell C8.out (by simp)
  go_simp
  with_reducible rfl
 go_frame
 refine late_take (i := 16) (v := ?v16) ⟨by kernel_rfl, by kernel_rfl, by kernel_rfl, by decide⟩ rfl (by decide +kernel) (by decide +kernel) (by decide +kernel) (fun _ _ _ h => h) (Or.inl ⟨by rfl, ?h16⟩) HS0.out ?r16
 case h16 =>
  intro W hW
  have t0 := hW.cell C0.out (by simp)
  have t1 := hW.cell X0.out (by simp)
  have t7 := hW.cell C7.out (by simp)
  have t8 := hW.cell C8.out (by simp)
  go_simp
  with_reducible rfl
 go_frame
 refine late_take (i := 17) (v := ?v17) ⟨by kernel_rfl, by kernel_rfl, by kernel_rfl, by decide⟩ rfl (by decide +kernel) (by decide +kernel) (by decide +kernel) (fun _ _ _ h => h) (Or.inl ⟨by rfl, ?h17⟩) HS0.out ?r17
 case h17 =>
  intro W hW
  have t0 := hW.cell C0.out (by simp)
  have t1 := hW.cell X0.out (by simp)
  have t7 := hW.cell C7.out (by simp)
  have t8 := hW.cell C8.out (by simp)
  go_simp
  with_reducible rfl
 go_frame
 refine late_take (i := 18) (v := ?v18) ⟨by kernel_rfl, by kernel_rfl, by kernel_rfl, by decide⟩ rfl (by decide +kernel) (by decide +kernel) (by decide +kernel) (fun _ _ _ h => h) (Or.inl ⟨by rfl, ?h18⟩) HS0.out ?r18
 case h18 =>
  intro W hW
  have t0 := hW.cell C0.out (by simp)
  have t1 := hW.cell X0.out (by simp)
  have t7 := hW.cell C7.out (by simp)
  have t8 := hW.cell C8.out (by simp)
  go_simp
  with_reducible rfl
 go_frame
 refine late_take (i := 19) (v := ?v19) ⟨by kernel_rfl, by kernel_rfl, by kernel_rfl, by decide⟩ rfl (by decide +kernel) (by decide +kernel) (by decide +kernel) (fun _ _ _ h => h) (Or.inl ⟨by rfl, ?h19⟩) HS0.out ?r19
 case h19 =>
  intro W hW
  have t0 := hW.cell C0.out (by simp)
  have t1 := hW.cell X0.out (by simp)
  have t7 := hW.cell C7.out (by simp)
  have t8 := hW.cell C8.out (by simp)
  go_simp
  with_reducible rfl
 go_frame
 refine late_take (i := 20) (v := ?v20) ⟨by kernel_rfl, by kernel_rfl, by kernel_rfl, by decide⟩ rfl (by decide +kernel) (by decide +kernel) (by decide +kernel) (fun _ _ _ h => h) (Or.inl ⟨by rfl, ?h20⟩) HS0.out ?r20
 case h20 =>
  intro W hW
  have t0 := hW.cell C0.out (by simp)
  have t1 := hW.cell X0.out (by simp)
  have t7 := hW.cell C7.out (by simp)
  have t8 := hW.cell C8.out (by simp)
  go_simp
  with_reducible rfl
 go_frame
 refine late_take (i := 21) (v := ?v21) ⟨by kernel_rfl, by kernel_rfl, by kernel_rfl, by decide⟩ rfl (by decide +kernel) (by decide +kernel) (by decide +kernel) (fun _ _ _ h => h) (Or.inl ⟨by rfl, ?h21⟩) HS0.out ?r21
 case h21 =>
  intro W hW
  have t0 := hW.cell C0.out (by simp)
  have t1 := hW.cell X0.out (by simp)
  have t7 := hW.cell C7.out (by simp)
  have t8 := hW.cell C8.out (by simp)
  go_simp
  with_reducible rfl
 go_frame
 refine late_same (l2 := #[false, true, false, true, true, true, true, true, true, true, false, false, false, false, true, false, true, true, true, true, true, true, false, false, false, false, false]) (a2 := ⟨#[.agg #[.slice (some ⟨b, off, none⟩) l.length scap, cv], .string sn, .pointer (some ⟨w.heap.size, 0, none⟩), .pointer (some ⟨w.heap.size + 1, 0, none⟩), .slice none 0 0, .int .i64 q, .pointer (some ⟨w.heap.size, 0, none⟩), .slice (some ⟨b, off, none⟩) l.length scap, .func (.func 118) #[] #[.pointer (some ⟨w.heap.size + 1, 0, none⟩)], .int .i64 q, undef, .string sn, .pointer (some ⟨w.heap.size, 0, none⟩), .slice (some ⟨b, off, none⟩) l.length scap, .int .i64 q, .pointer (some ⟨b, off + q * 3, none⟩), .pointer (some ⟨b, off + q * 3 + 1, none⟩), .int .i64 lo, .int .i64 (-lo), undef, undef, undef, .string sn, .pointer (some ⟨w.heap.size, 0, none⟩), .slice (some ⟨b, off, none⟩) l.length scap, .int .i64 q, .pointer (some ⟨b, off + q * 3, none⟩), .pointer (some ⟨b, off + q * 3 + 2, none⟩), .int .i64 hi, undef, undef, undef], []⟩) (by kernel_rfl) (by kernel_rfl) ?_
 refine late_abs (fun G hG => ?_)
 have st_5_5 : ∀ (M : Nat) (p : Option Addr) (cp : Nat) (N : Nat) (r : Option Addr) (cr : Nat) (W : World), w2.heap.size ≤ M → Hid (TermsAt W (.slice p 1 cp) [(sn, 1)]) → w2.heap.size ≤ N → Hid (TermsAt W (.slice r 1 cr) [(sn, -1)]) → Hid (w2.grownBy W none) → G 0 #[true, true, true, true, true, true, true, true, true, true, true, true, true, true, true, true, true, true, true, true, true, true, true, true, true, false, false] ⟨#[.agg #[.slice (some ⟨b, off, none⟩) l.length scap, cv], .string sn, .pointer (some ⟨w.heap.size, 0, none⟩), .pointer (some ⟨w.heap.size + 1, 0, none⟩), .slice none 0 0, .int .i64 q, .pointer (some ⟨w.heap.size, 0, none⟩), .slice (some ⟨b, off, none⟩) l.length scap, .func (.func 118) #[] #[.pointer (some ⟨w.heap.size + 1, 0, none⟩)], .int .i64 q, .map (some M), .string sn, .pointer (some ⟨w.heap.size, 0, none⟩), .slice (some ⟨b, off, none⟩) l.length scap, .int .i64 q, .pointer (some ⟨b, off + q * 3, none⟩), .pointer (some ⟨b, off + q * 3 + 1, none⟩), .int .i64 lo, .int .i64 (-lo), .map (some M), .agg #[.int .i64 (-lo), .slice p 1 cp], .map (some N), .string sn, .pointer (some ⟨w.heap.size, 0, none⟩), .slice (some ⟨b, off, none⟩) l.length scap, .int .i64 q, .pointer (some ⟨b, off + q * 3, none⟩), .pointer (some ⟨b, off + q * 3 + 2, none⟩), .int .i64 hi, .map (some N), .agg #[.int .i64 hi, .slice r 1 cr], undef], []⟩ W := by
  intro M p cp N r cr W hM HA hN HB HS
  rw [hG.out]
  refine late_done (by decide +kernel) ?_
  simp only [List.drop_succ_cons, List.drop_zero]
  have HW := uH HS.out
  clear HS
  go_wp2
  go_ret
  have hg := gA W (.cells #[.int .i64 (-lo), .slice p 1 cp, .int .i64 hi, .slice r 1 cr] 35) none
  have hW2 : w.heap.size ≤ W.heap.size := Nat.le_trans (gT HG1.out HG2.out).size HW.out.size
  refine ⟨_, [.slice p 1 cp, .slice r 1 cr], rfl, ⟨rfl, ?_, fun j f tv h1 h2 => ?_⟩, gT (gT HG1.out HG2.out) (gT HW.out hg)⟩
  · exact owns_lower (owns_fresh W [.int .i64 (-lo), .slice p 1 cp, .int .i64 hi, .slice r 1 cr] 35 2 2 rfl (by unfold maxLen; omega)) hW2
  · have hlate : ∀ (w3 : World) (tv : Value) (ts : List (ByteArray × Int)), TermsAt W tv ts → (W.alloc (.cells #[.int .i64 (-lo), .slice p 1 cp, .int .i64 hi, .slice r 1 cr] 35)).grownBy w3 (some W.heap.size) → TermsAt w3 tv ts := fun w3 tv ts h4 h5 => h4.later hg h5 (fun k hk => by cases hk; exact Nat.le_refl _)
    match j, h1, h2 with
    | 0, h1, h2 =>
      obtain rfl := Option.some.inj h1
      obtain rfl := Option.some.inj h2
      exact ⟨by constructor <;> (simp only; omega), fun w3 h3 => hlate w3 _ _ HA.out h3⟩
    | 1, h1, h2 =>
      obtain rfl := Option.some.inj h1
      obtain rfl := Option.some.inj h2
      exact ⟨⟨h5, h5'⟩, fun w3 h3 => hlate w3 _ _ HB.out h3⟩
    | j + 2, h1, _ => simp [sideC] at h1
 have st_5_4 : ∀ (M : Nat) (p : Option Addr) (cp : Nat) (N : Nat) (W : World), w2.heap.size ≤ M → Hid (TermsAt W (.slice p 1 cp) [(sn, 1)]) → w2.heap.size ≤ N → Hid (TabW W N 2 (oneX sn (-1) hi)) → Hid (w2.grownBy W none) → G 1 #[true, true, true, true, true, true, true, true, true, true, true, true, true, true, true, true, true, true, true, true, true, true, true, true, false, false, false] ⟨#[.agg #[.slice (some ⟨b, off, none⟩) l.length scap, cv], .string sn, .pointer (some ⟨w.heap.size, 0, none⟩), .pointer (some ⟨w.heap.size + 1, 0, none⟩), .slice none 0 0, .int .i64 q, .pointer (some ⟨w.heap.size, 0, none⟩), .slice (some ⟨b, off, none⟩) l.length scap, .func (.func 118) #[] #[.pointer (some ⟨w.heap.size + 1, 0, none⟩)], .int .i64 q, .map (some M), .string sn, .pointer (some ⟨w.heap.size, 0, none⟩), .slice (some ⟨b, off, none⟩) l.length scap, .int .i64 q, .pointer (some ⟨b, off + q * 3, none⟩), .pointer (some ⟨b, off + q * 3 + 1, none⟩), .int .i64 lo, .int .i64 (-lo), .map (some M), .agg #[.int .i64 (-lo), .slice p 1 cp], .map (some N), .string sn, .pointer (some ⟨w.heap.size, 0, none⟩), .slice (some ⟨b, off, none⟩) l.length scap, .int .i64 q, .pointer (some ⟨b, off + q * 3, none⟩), .pointer (some ⟨b, off + q * 3 + 2, none⟩), .int .i64 hi, .map (some N), undef, undef], []⟩ W := by
  intro M p cp N W hM HA hN HB HS
  rw [hG.out]
  refine late_some 24 [] (by kernel_rfl) ?_
  refine List.forall_mem_cons.2 ⟨?_, List.forall_mem_nil _⟩
  · refine ⟨by decide, _, rfl, fun K hK => ?_⟩
    refine op_enter rfl 67 #[.map (some N)] (by kernel_rfl) ((HB.out.form (by omega)).mono ?_)
    rintro e W2 ⟨us, r, cr, rfl, hf, hrow, hul, hg⟩
    obtain ⟨h0, rfl⟩ := oneX_form HNe.out (by decide) hf
    rw [h0]
    have HS2 := gT HS.out hg
    refine ⟨_, rfl, hK _ _ HS2 ?_⟩
    have one_good : ∀ s ∈ [(sn, ((-1) : Int))], goodTerm s := fun s hs => by obtain rfl := List.mem_singleton.1 hs; exact ⟨hxs, by show -2000000000000 ≤ ((-1) : Int) ∧ ((-1) : Int) ≤ 2000000000000; omega⟩
    have h := st_5_5 M p cp N r cr W2 hM (HA.out.kept hg) hN (uH (terms_of_owns hrow (by simp) one_good)) (uH HS2)
    rw [hG.out] at h
    exact late_same (by kernel_rfl) (by kernel_rfl) h
 have st_4_4 : ∀ (M : Nat) (N : Nat) (W : World), w2.heap.size ≤ M → Hid (TabW W M 2 (oneX sn 1 (-lo))) → w2.heap.size ≤ N → M ≠ N → Hid (TabW W N 2 (oneX sn (-1) hi)) → Hid (w2.grownBy W none) → G 2 #[true, true, true, true, true, true, true, true, true, true, true, true, false, true, true, true, true, true, true, true, true, true, true, true, false, false, false] ⟨#[.agg #[.slice (some ⟨b, off, none⟩) l.length scap, cv], .string sn, .pointer (some ⟨w.heap.size, 0, none⟩), .pointer (some ⟨w.heap.size + 1, 0, none⟩), .slice none 0 0, .int .i64 q, .pointer (some ⟨w.heap.size, 0, none⟩), .slice (some ⟨b, off, none⟩) l.length scap, .func (.func 118) #[] #[.pointer (some ⟨w.heap.size + 1, 0, none⟩)], .int .i64 q, .map (some M), .string sn, .pointer (some ⟨w.heap.size, 0, none⟩), .slice (some ⟨b, off, none⟩) l.length scap, .int .i64 q, .pointer (some ⟨b, off + q * 3, none⟩), .pointer (some ⟨b, off + q * 3 + 1, none⟩), .int .i64 lo, .int .i64 (-lo), .map (some M), undef, .map (some N), .string sn, .pointer (some ⟨w.heap.size, 0, none⟩), .slice (some ⟨b, off, none⟩) l.length scap, .int .i64 q, .pointer (some ⟨b, off + q * 3, none⟩), .pointer (some ⟨b, off + q * 3 + 2, none⟩), .int .i64 hi, .map (some N), undef, undef], []⟩ W := by
  intro M N W hM HA hN hne HB HS
  rw [hG.out]
  refine late_some 12 [] (by kernel_rfl) ?_
  refine List.forall_mem_cons.2 ⟨?_, List.forall_mem_nil _⟩
  · refine ⟨by decide, _, rfl, fun K hK => ?_⟩
    refine op_enter rfl 67 #[.map (some M)] (by kernel_rfl) ((HA.out.form (by omega)).mono ?_)
    rintro e W2 ⟨us, p, cp, rfl, hf, hrow, hul, hg⟩
    obtain ⟨h0, rfl⟩ := oneX_form HNe.out (by decide) hf
    rw [h0]
    have HS2 := gT HS.out hg
    refine ⟨_, rfl, hK _ _ HS2 ?_⟩
    have one_good : ∀ s ∈ [(sn, (1 : Int))], goodTerm s := fun s hs => by obtain rfl := List.mem_singleton.1 hs; exact ⟨hxs, by show -2000000000000 ≤ (1 : Int) ∧ (1 : Int) ≤ 2000000000000; omega⟩
    have h := st_5_4 M p cp N W2 hM (uH (terms_of_owns hrow (by simp) one_good)) hN (HB.out.kept hg) (uH HS2)
    rw [hG.out] at h
    exact late_same (by kernel_rfl) (by kernel_rfl) h
 have st_5_2 : ∀ (M : Nat) (p : Option Addr) (cp : Nat) (N : Nat) (W : World), w2.heap.size ≤ M → Hid (TermsAt W (.slice p 1 cp) [(sn, 1)]) → w2.heap.size ≤ N → Hid (TabW W N 1 (fun m => if m = sn then -1 else 0)) → Hid (w2.grownBy W none) → G 3 #[true, true, true, true, true, true, true, true, true, true, true, true, true, true, true, true, true, true, true, true, true, true, false, false, false, false, false] ⟨#[.agg #[.slice (some ⟨b, off, none⟩) l.length scap, cv], .string sn, .pointer (some ⟨w.heap.size, 0, none⟩), .pointer (some ⟨w.heap.size + 1, 0, none⟩), .slice none 0 0, .int .i64 q, .pointer (some ⟨w.heap.size, 0, none⟩), .slice (some ⟨b, off, none⟩) l.length scap, .func (.func 118) #[] #[.pointer (some ⟨w.heap.size + 1, 0, none⟩)], .int .i64 q, .map (some M), .string sn, .pointer (some ⟨w.heap.size, 0, none⟩), .slice (some ⟨b, off, none⟩) l.length scap, .int .i64 q, .pointer (some ⟨b, off + q * 3, none⟩), .pointer (some ⟨b, off + q * 3 + 1, none⟩), .int .i64 lo, .int .i64 (-lo), .map (some M), .agg #[.int .i64 (-lo), .slice p 1 cp], .map (some N), .string sn, .pointer (some ⟨w.heap.size, 0, none⟩), .slice (some ⟨b, off, none⟩) l.length scap, .int .i64 q, .pointer (some ⟨b, off + q * 3, none⟩), .pointer (some ⟨b, off + q * 3 + 2, none⟩), .int .i64 hi, undef, undef, undef], []⟩ W := by
  intro M p cp N W hM HA hN HB HS
  rw [hG.out]
  refine late_some 22 [] (by kernel_rfl) ?_
  refine List.forall_mem_cons.2 ⟨?_, List.forall_mem_nil _⟩
  · refine ⟨by decide, _, rfl, fun K hK => ?_⟩
    obtain ⟨W2, hr, ht, hg⟩ := HB.out.put (by omega) (x := ByteArray.empty) (Nat.zero_le _) (z := hi) (by omega)
    have HS2 := gO HS.out hg (fun k hk => by cases hk; exact hN)
    refine op_insert rfl _ _ _ _ rfl hr (hK _ _ HS2 ?_)
    refine late_take (i := 23) (v := .map (some N)) ⟨by kernel_rfl, by kernel_rfl, by kernel_rfl, by decide⟩ rfl (by decide +kernel) (by decide +kernel) (by decide +kernel) (fun _ _ _ h => h) (Or.inl ⟨by rfl, fun W _ => by kernel_rfl⟩) HS2 ?_
    have h := st_5_4 M p cp N W2 hM (uH (terms_beside HA.out HB.out hg)) hN (uH (ht.cong (oneX_a))) (uH HS2)
    rw [hG.out] at h
    exact late_same (by kernel_rfl) (by kernel_rfl) h
 have st_5_3 : ∀ (M : Nat) (p : Option Addr) (cp : Nat) (N : Nat) (W : World), w2.heap.size ≤ M → Hid (TermsAt W (.slice p 1 cp) [(sn, 1)]) → w2.heap.size ≤ N → Hid (TabW W N 1 (fun m => if m = ByteArray.empty then hi else 0)) → Hid (w2.grownBy W none) → G 3 #[true, true, true, true, true, true, true, true, true, true, true, true, true, true, true, false, true, true, true, true, true, true, true, false, false, false, false] ⟨#[.agg #[.slice (some ⟨b, off, none⟩) l.length scap, cv], .string sn, .pointer (some ⟨w.heap.size, 0, none⟩), .pointer (some ⟨w.heap.size + 1, 0, none⟩), .slice none 0 0, .int .i64 q, .pointer (some ⟨w.heap.size, 0, none⟩), .slice (some ⟨b, off, none⟩) l.length scap, .func (.func 118) #[] #[.pointer (some ⟨w.heap.size + 1, 0, none⟩)], .int .i64 q, .map (some M), .string sn, .pointer (some ⟨w.heap.size, 0, none⟩), .slice (some ⟨b, off, none⟩) l.length scap, .int .i64 q, .pointer (some ⟨b, off + q * 3, none⟩), .pointer (some ⟨b, off + q * 3 + 1, none⟩), .int .i64 lo, .int .i64 (-lo), .map (some M), .agg #[.int .i64 (-lo), .slice p 1 cp], .map (some N), .string sn, .pointer (some ⟨w.heap.size, 0, none⟩), .slice (some ⟨b, off, none⟩) l.length scap, .int .i64 q, .pointer (some ⟨b, off + q * 3, none⟩), .pointer (some ⟨b, off + q * 3 + 2, none⟩), .int .i64 hi, undef, undef, undef], []⟩ W := by
  intro M p cp N W hM HA hN HB HS
  rw [hG.out]
  refine late_some 15 [] (by kernel_rfl) ?_
  refine List.forall_mem_cons.2 ⟨?_, List.forall_mem_nil _⟩
  · refine ⟨by decide, _, rfl, fun K hK => ?_⟩
    obtain ⟨W2, hr, ht, hg⟩ := HB.out.put (by omega) (x := sn) h3 (z := (-1)) (by omega)
    have HS2 := gO HS.out hg (fun k hk => by cases hk; exact hN)
    refine op_insert rfl _ _ _ _ rfl hr (hK _ _ HS2 ?_)
    refine late_take (i := 23) (v := .map (some N)) ⟨by kernel_rfl, by kernel_rfl, by kernel_rfl, by decide⟩ rfl (by decide +kernel) (by decide +kernel) (by decide +kernel) (fun _ _ _ h => h) (Or.inl ⟨by rfl, fun W _ => by kernel_rfl⟩) HS2 ?_
    have h := st_5_4 M p cp N W2 hM (uH (terms_beside HA.out HB.out hg)) hN (uH (ht.cong (oneX_b HNe.out))) (uH HS2)
    rw [hG.out] at h
    exact late_same (by kernel_rfl) (by kernel_rfl) h
 have st_2_4 : ∀ (M : Nat) (N : Nat) (W : World), w2.heap.size ≤ M → Hid (TabW W M 1 (fun m => if m = sn then 1 else 0)) → w2.heap.size ≤ N → M ≠ N → Hid (TabW W N 2 (oneX sn (-1) hi)) → Hid (w2.grownBy W none) → G 4 #[true, true, true, true, true, true, true, true, true, true, false, false, false, true, true, true, true, true, true, true, true, true, true, true, false, false, false] ⟨#[.agg #[.slice (some ⟨b, off, none⟩) l.length scap, cv], .string sn, .pointer (some ⟨w.heap.size, 0, none⟩), .pointer (some ⟨w.heap.size + 1, 0, none⟩), .slice none 0 0, .int .i64 q, .pointer (some ⟨w.heap.size, 0, none⟩), .slice (some ⟨b, off, none⟩) l.length scap, .func (.func 118) #[] #[.pointer (some ⟨w.heap.size + 1, 0, none⟩)], .int .i64 q, .map (some M), .string sn, .pointer (some ⟨w.heap.size, 0, none⟩), .slice (some ⟨b, off, none⟩) l.length scap, .int .i64 q, .pointer (some ⟨b, off + q * 3, none⟩), .pointer (some ⟨b, off + q * 3 + 1, none⟩), .int .i64 lo, .int .i64 (-lo), undef, undef, .map (some N), .string sn, .pointer (some ⟨w.heap.size, 0, none⟩), .slice (some ⟨b, off, none⟩) l.length scap, .int .i64 q, .pointer (some ⟨b, off + q * 3, none⟩), .pointer (some ⟨b, off + q * 3 + 2, none⟩), .int .i64 hi, .map (some N), undef, undef], []⟩ W := by
  intro M N W hM HA hN hne HB HS
  rw [hG.out]
  refine late_some 10 [] (by kernel_rfl) ?_
  refine List.forall_mem_cons.2 ⟨?_, List.forall_mem_nil _⟩
  · refine ⟨by decide, _, rfl, fun K hK => ?_⟩
    obtain ⟨W2, hr, ht, hg⟩ := HA.out.put (by omega) (x := ByteArray.empty) (Nat.zero_le _) (z := (-lo)) (by omega)
    have HS2 := gO HS.out hg (fun k hk => by cases hk; exact hM)
    refine op_insert rfl _ _ _ _ rfl hr (hK _ _ HS2 ?_)
    refine late_take (i := 11) (v := .map (some M)) ⟨by kernel_rfl, by kernel_rfl, by kernel_rfl, by decide⟩ rfl (by decide +kernel) (by decide +kernel) (by decide +kernel) (fun _ _ _ h => h) (Or.inl ⟨by rfl, fun W _ => by kernel_rfl⟩) HS2 ?_
    have h := st_4_4 M N W2 hM (uH (ht.cong (oneX_a))) hN hne (uH (HB.out.beside hg (fun e => hne e.symm))) (uH HS2)
    rw [hG.out] at h
    exact late_same (by kernel_rfl) (by kernel_rfl) h
 have st_3_4 : ∀ (M : Nat) (N : Nat) (W : World), w2.heap.size ≤ M → Hid (TabW W M 1 (fun m => if m = ByteArray.empty then -lo else 0)) → w2.heap.size ≤ N → M ≠ N → Hid (TabW W N 2 (oneX sn (-1) hi)) → Hid (w2.grownBy W none) → G 4 #[true, true, false, true, true, true, true, true, true, true, true, false, false, true, true, true, true, true, true, true, true, true, true, true, false, false, false] ⟨#[.agg #[.slice (some ⟨b, off, none⟩) l.length scap, cv], .string sn, .pointer (some ⟨w.heap.size, 0, none⟩), .pointer (some ⟨w.heap.size + 1, 0, none⟩), .slice none 0 0, .int .i64 q, .pointer (some ⟨w.heap.size, 0, none⟩), .slice (some ⟨b, off, none⟩) l.length scap, .func (.func 118) #[] #[.pointer (some ⟨w.heap.size + 1, 0, none⟩)], .int .i64 q, .map (some M), .string sn, .pointer (some ⟨w.heap.size, 0, none⟩), .slice (some ⟨b, off, none⟩) l.length scap, .int .i64 q, .pointer (some ⟨b, off + q * 3, none⟩), .pointer (some ⟨b, off + q * 3 + 1, none⟩), .int .i64 lo, .int .i64 (-lo), undef, undef, .map (some N), .string sn, .pointer (some ⟨w.heap.size, 0, none⟩), .slice (some ⟨b, off, none⟩) l.length scap, .int .i64 q, .pointer (some ⟨b, off + q * 3, none⟩), .pointer (some ⟨b, off + q * 3 + 2, none⟩), .int .i64 hi, .map (some N), undef, undef], []⟩ W := by
  intro M N W hM HA hN hne HB HS
  rw [hG.out]
  refine late_some 2 [] (by kernel_rfl) ?_
  refine List.forall_mem_cons.2 ⟨?_, List.forall_mem_nil _⟩
  · refine ⟨by decide, _, rfl, fun K hK => ?_⟩
    obtain ⟨W2, hr, ht, hg⟩ := HA.out.put (by omega) (x := sn) h3 (z := 1) (by omega)
    have HS2 := gO HS.out hg (fun k hk => by cases hk; exact hM)
    refine op_insert rfl _ _ _ _ rfl hr (hK _ _ HS2 ?_)
    refine late_take (i := 11) (v := .map (some M)) ⟨by kernel_rfl, by kernel_rfl, by kernel_rfl, by decide⟩ rfl (by decide +kernel) (by decide +kernel) (by decide +kernel) (fun _ _ _ h => h) (Or.inl ⟨by rfl, fun W _ => by kernel_rfl⟩) HS2 ?_
    have h := st_4_4 M N W2 hM (uH (ht.cong (oneX_b HNe.out))) hN hne (uH (HB.out.beside hg (fun e => hne e.symm))) (uH HS2)
    rw [hG.out] at h
    exact late_same (by kernel_rfl) (by kernel_rfl) h
 have st_4_2 : ∀ (M : Nat) (N : Nat) (W : World), w2.heap.size ≤ M → Hid (TabW W M 2 (oneX sn 1 (-lo))) → w2.heap.size ≤ N → M ≠ N → Hid (TabW W N 1 (fun m => if m = sn then -1 else 0)) → Hid (w2.grownBy W none) → G 4 #[true, true, true, true, true, true, true, true, true, true, true, true, false, true, true, true, true, true, true, true, true, true, false, false, false, false, false] ⟨#[.agg #[.slice (some ⟨b, off, none⟩) l.length scap, cv], .string sn, .pointer (some ⟨w.heap.size, 0, none⟩), .pointer (some ⟨w.heap.size + 1, 0, none⟩), .slice none 0 0, .int .i64 q, .pointer (some ⟨w.heap.size, 0, none⟩), .slice (some ⟨b, off, none⟩) l.length scap, .func (.func 118) #[] #[.pointer (some ⟨w.heap.size + 1, 0, none⟩)], .int .i64 q, .map (some M), .string sn, .pointer (some ⟨w.heap.size, 0, none⟩), .slice (some ⟨b, off, none⟩) l.length scap, .int .i64 q, .pointer (some ⟨b, off + q * 3, none⟩), .pointer (some ⟨b, off + q * 3 + 1, none⟩), .int .i64 lo, .int .i64 (-lo), .map (some M), undef, .map (some N), .string sn, .pointer (some ⟨w.heap.size, 0, none⟩), .slice (some ⟨b, off, none⟩) l.length scap, .int .i64 q, .pointer (some ⟨b, off + q * 3, none⟩), .pointer (some ⟨b, off + q * 3 + 2, none⟩), .int .i64 hi, undef, undef, undef], []⟩ W := by
  intro M N W hM HA hN hne HB HS
  rw [hG.out]
  refine late_some 12 [22] (by kernel_rfl) ?_
  refine List.forall_mem_cons.2 ⟨?_, List.forall_mem_cons.2 ⟨?_, List.forall_mem_nil _⟩⟩
  · refine ⟨by decide, _, rfl, fun K hK => ?_⟩
    refine op_enter rfl 67 #[.map (some M)] (by kernel_rfl) ((HA.out.form (by omega)).mono ?_)
    rintro e W2 ⟨us, p, cp, rfl, hf, hrow, hul, hg⟩
    obtain ⟨h0, rfl⟩ := oneX_form HNe.out (by decide) hf
    rw [h0]
    have HS2 := gT HS.out hg
    refine ⟨_, rfl, hK _ _ HS2 ?_⟩
    have one_good : ∀ s ∈ [(sn, (1 : Int))], goodTerm s := fun s hs => by obtain rfl := List.mem_singleton.1 hs; exact ⟨hxs, by show -2000000000000 ≤ (1 : Int) ∧ (1 : Int) ≤ 2000000000000; omega⟩
    have h := st_5_2 M p cp N W2 hM (uH (terms_of_owns hrow (by simp) one_good)) hN (HB.out.kept hg) (uH HS2)
    rw [hG.out] at h
    exact late_same (by kernel_rfl) (by kernel_rfl) h
  · refine ⟨by decide, _, rfl, fun K hK => ?_⟩
    obtain ⟨W2, hr, ht, hg⟩ := HB.out.put (by omega) (x := ByteArray.empty) (Nat.zero_le _) (z := hi) (by omega)
    have HS2 := gO HS.out hg (fun k hk => by cases hk; exact hN)
    refine op_insert rfl _ _ _ _ rfl hr (hK _ _ HS2 ?_)
    refine late_take (i := 23) (v := .map (some N)) ⟨by kernel_rfl, by kernel_rfl, by kernel_rfl, by decide⟩ rfl (by decide +kernel) (by decide +kernel) (by decide +kernel) (fun _ _ _ h => h) (Or.inl ⟨by rfl, fun W _ => by kernel_rfl⟩) HS2 ?_
    have h := st_4_4 M N W2 hM (uH (HA.out.beside hg hne)) hN hne (uH (ht.cong (oneX_a))) (uH HS2)
    rw [hG.out] at h
    exact late_same (by kernel_rfl) (by kernel_rfl) h
 have st_4_3 : ∀ (M : Nat) (N : Nat) (W : World), w2.heap.size ≤ M → Hid (TabW W M 2 (oneX sn 1 (-lo))) → w2.heap.size ≤ N → M ≠ N → Hid (TabW W N 1 (fun m => if m = ByteArray.empty then hi else 0)) → Hid (w2.grownBy W none) → G 4 #[true, true, true, true, true, true, true, true, true, true, true, true, false, true, true, false, true, true, true, true, true, true, true, false, false, false, false] ⟨#[.agg #[.slice (some ⟨b, off, none⟩) l.length scap, cv], .string sn, .pointer (some ⟨w.heap.size, 0, none⟩), .pointer (some ⟨w.heap.size + 1, 0, none⟩), .slice none 0 0, .int .i64 q, .pointer (some ⟨w.heap.size, 0, none⟩), .slice (some ⟨b, off, none⟩) l.length scap, .func (.func 118) #[] #[.pointer (some ⟨w.heap.size + 1, 0, none⟩)], .int .i64 q, .map (some M), .string sn, .pointer (some ⟨w.heap.size, 0, none⟩), .slice (some ⟨b, off, none⟩) l.length scap, .int .i64 q, .pointer (some ⟨b, off + q * 3, none⟩), .pointer (some ⟨b, off + q * 3 + 1, none⟩), .int .i64 lo, .int .i64 (-lo), .map (some M), undef, .map (some N), .string sn, .pointer (some ⟨w.heap.size, 0, none⟩), .slice (some ⟨b, off, none⟩) l.length scap, .int .i64 q, .pointer (some ⟨b, off + q * 3, none⟩), .pointer (some ⟨b, off + q * 3 + 2, none⟩), .int .i64 hi, undef, undef, undef], []⟩ W := by
  intro M N W hM HA hN hne HB HS
  rw [hG.out]
  refine late_some 12 [15] (by kernel_rfl) ?_
  refine List.forall_mem_cons.2 ⟨?_, List.forall_mem_cons.2 ⟨?_, List.forall_mem_nil _⟩⟩
  · refine ⟨by decide, _, rfl, fun K hK => ?_⟩
    refine op_enter rfl 67 #[.map (some M)] (by kernel_rfl) ((HA.out.form (by omega)).mono ?_)
    rintro e W2 ⟨us, p, cp, rfl, hf, hrow, hul, hg⟩
    obtain ⟨h0, rfl⟩ := oneX_form HNe.out (by decide) hf
    rw [h0]
    have HS2 := gT HS.out hg
    refine ⟨_, rfl, hK _ _ HS2 ?_⟩
    have one_good : ∀ s ∈ [(sn, (1 : Int))], goodTerm s := fun s hs => by obtain rfl := List.mem_singleton.1 hs; exact ⟨hxs, by show -2000000000000 ≤ (1 : Int) ∧ (1 : Int) ≤ 2000000000000; omega⟩
    have h := st_5_3 M p cp N W2 hM (uH (terms_of_owns hrow (by simp) one_good)) hN (HB.out.kept hg) (uH HS2)
    rw [hG.out] at h
    exact late_same (by kernel_rfl) (by kernel_rfl) h
  · refine ⟨by decide, _, rfl, fun K hK => ?_⟩
    obtain ⟨W2, hr, ht, hg⟩ := HB.out.put (by omega) (x := sn) h3 (z := (-1)) (by omega)
    have HS2 := gO HS.out hg (fun k hk => by cases hk; exact hN)
    refine op_insert rfl _ _ _ _ rfl hr (hK _ _ HS2 ?_)
    refine late_take (i := 23) (v := .map (some N)) ⟨by kernel_rfl, by kernel_rfl, by kernel_rfl, by decide⟩ rfl (by decide +kernel) (by decide +kernel) (by decide +kernel) (fun _ _ _ h => h) (Or.inl ⟨by rfl, fun W _ => by kernel_rfl⟩) HS2 ?_
    have h := st_4_4 M N W2 hM (uH (HA.out.beside hg hne)) hN hne (uH (ht.cong (oneX_b HNe.out))) (uH HS2)
    rw [hG.out] at h
    exact late_same (by kernel_rfl) (by kernel_rfl) h
 have st_5_1 : ∀ (M : Nat) (p : Option Addr) (cp : Nat) (N : Nat) (W : World), w2.heap.size ≤ M → Hid (TermsAt W (.slice p 1 cp) [(sn, 1)]) → w2.heap.size ≤ N → Hid (TabW W N 0 (fun _ => 0)) → Hid (w2.grownBy W none) → G 4 #[true, true, true, true, true, true, true, true, true, true, true, true, true, true, true, false, true, true, true, true, true, true, false, false, false, false, false] ⟨#[.agg #[.slice (some ⟨b, off, none⟩) l.length scap, cv], .string sn, .pointer (some ⟨w.heap.size, 0, none⟩), .pointer (some ⟨w.heap.size + 1, 0, none⟩), .slice none 0 0, .int .i64 q, .pointer (some ⟨w.heap.size, 0, none⟩), .slice (some ⟨b, off, none⟩) l.length scap, .func (.func 118) #[] #[.pointer (some ⟨w.heap.size + 1, 0, none⟩)], .int .i64 q, .map (some M), .string sn, .pointer (some ⟨w.heap.size, 0, none⟩), .slice (some ⟨b, off, none⟩) l.length scap, .int .i64 q, .pointer (some ⟨b, off + q * 3, none⟩), .pointer (some ⟨b, off + q * 3 + 1, none⟩), .int .i64 lo, .int .i64 (-lo), .map (some M), .agg #[.int .i64 (-lo), .slice p 1 cp], .map (some N), .string sn, .pointer (some ⟨w.heap.size, 0, none⟩), .slice (some ⟨b, off, none⟩) l.length scap, .int .i64 q, .pointer (some ⟨b, off + q * 3, none⟩), .pointer (some ⟨b, off + q * 3 + 2, none⟩), .int .i64 hi, undef, undef, undef], []⟩ W := by
  intro M p cp N W hM HA hN HB HS
  rw [hG.out]
  refine late_some 15 [22] (by kernel_rfl) ?_
  refine List.forall_mem_cons.2 ⟨?_, List.forall_mem_cons.2 ⟨?_, List.forall_mem_nil _⟩⟩
  · refine ⟨by decide, _, rfl, fun K hK => ?_⟩
    obtain ⟨W2, hr, ht, hg⟩ := HB.out.put (by omega) (x := sn) h3 (z := (-1)) (by omega)
    have HS2 := gO HS.out hg (fun k hk => by cases hk; exact hN)
    refine op_insert rfl _ _ _ _ rfl hr (hK _ _ HS2 ?_)
    have h := st_5_2 M p cp N W2 hM (uH (terms_beside HA.out HB.out hg)) hN (uH ht) (uH HS2)
    rw [hG.out] at h
    exact late_same (by kernel_rfl) (by kernel_rfl) h
  · refine ⟨by decide, _, rfl, fun K hK => ?_⟩
    obtain ⟨W2, hr, ht, hg⟩ := HB.out.put (by omega) (x := ByteArray.empty) (Nat.zero_le _) (z := hi) (by omega)
    have HS2 := gO HS.out hg (fun k hk => by cases hk; exact hN)
    refine op_insert rfl _ _ _ _ rfl hr (hK _ _ HS2 ?_)
    have h := st_5_3 M p cp N W2 hM (uH (terms_beside HA.out HB.out hg)) hN (uH ht) (uH HS2)
    rw [hG.out] at h
    exact late_same (by kernel_rfl) (by kernel_rfl) h
 have st_1_4 : ∀ (M : Nat) (N : Nat) (W : World), w2.heap.size ≤ M → Hid (TabW W M 0 (fun _ => 0)) → w2.heap.size ≤ N → M ≠ N → Hid (TabW W N 2 (oneX sn (-1) hi)) → Hid (w2.grownBy W none) → G 5 #[true, true, false, true, true, true, true, true, true, true, false, false, false, true, true, true, true, true, true, true, true, true, true, true, false, false, false] ⟨#[.agg #[.slice (some ⟨b, off, none⟩) l.length scap, cv], .string sn, .pointer (some ⟨w.heap.size, 0, none⟩), .pointer (some ⟨w.heap.size + 1, 0, none⟩), .slice none 0 0, .int .i64 q, .pointer (some ⟨w.heap.size, 0, none⟩), .slice (some ⟨b, off, none⟩) l.length scap, .func (.func 118) #[] #[.pointer (some ⟨w.heap.size + 1, 0, none⟩)], .int .i64 q, .map (some M), .string sn, .pointer (some ⟨w.heap.size, 0, none⟩), .slice (some ⟨b, off, none⟩) l.length scap, .int .i64 q, .pointer (some ⟨b, off + q * 3, none⟩), .pointer (some ⟨b, off + q * 3 + 1, none⟩), .int .i64 lo, .int .i64 (-lo), undef, undef, .map (some N), .string sn, .pointer (some ⟨w.heap.size, 0, none⟩), .slice (some ⟨b, off, none⟩) l.length scap, .int .i64 q, .pointer (some ⟨b, off + q * 3, none⟩), .pointer (some ⟨b, off + q * 3 + 2, none⟩), .int .i64 hi, .map (some N), undef, undef], []⟩ W := by
  intro M N W hM HA hN hne HB HS
  rw [hG.out]
  refine late_some 2 [10] (by kernel_rfl) ?_
  refine List.forall_mem_cons.2 ⟨?_, List.forall_mem_cons.2 ⟨?_, List.forall_mem_nil _⟩⟩
  · refine ⟨by decide, _, rfl, fun K hK => ?_⟩
    obtain ⟨W2, hr, ht, hg⟩ := HA.out.put (by omega) (x := sn) h3 (z := 1) (by omega)
    have HS2 := gO HS.out hg (fun k hk => by cases hk; exact hM)
    refine op_insert rfl _ _ _ _ rfl hr (hK _ _ HS2 ?_)
    have h := st_2_4 M N W2 hM (uH ht) hN hne (uH (HB.out.beside hg (fun e => hne e.symm))) (uH HS2)
    rw [hG.out] at h
    exact late_same (by kernel_rfl) (by kernel_rfl) h
  · refine ⟨by decide, _, rfl, fun K hK => ?_⟩
    obtain ⟨W2, hr, ht, hg⟩ := HA.out.put (by omega) (x := ByteArray.empty) (Nat.zero_le _) (z := (-lo)) (by omega)
    have HS2 := gO HS.out hg (fun k hk => by cases hk; exact hM)
    refine op_insert rfl _ _ _ _ rfl hr (hK _ _ HS2 ?_)
    have h := st_3_4 M N W2 hM (uH ht) hN hne (uH (HB.out.beside hg (fun e => hne e.symm))) (uH HS2)
    rw [hG.out] at h
    exact late_same (by kernel_rfl) (by kernel_rfl) h
 have st_4_1 : ∀ (M : Nat) (N : Nat) (W : World), w2.heap.size ≤ M → Hid (TabW W M 2 (oneX sn 1 (-lo))) → w2.heap.size ≤ N → M ≠ N → Hid (TabW W N 0 (fun _ => 0)) → Hid (w2.grownBy W none) → G 5 #[true, true, true, true, true, true, true, true, true, true, true, true, false, true, true, false, true, true, true, true, true, true, false, false, false, false, false] ⟨#[.agg #[.slice (some ⟨b, off, none⟩) l.length scap, cv], .string sn, .pointer (some ⟨w.heap.size, 0, none⟩), .pointer (some ⟨w.heap.size + 1, 0, none⟩), .slice none 0 0, .int .i64 q, .pointer (some ⟨w.heap.size, 0, none⟩), .slice (some ⟨b, off, none⟩) l.length scap, .func (.func 118) #[] #[.pointer (some ⟨w.heap.size + 1, 0, none⟩)], .int .i64 q, .map (some M), .string sn, .pointer (some ⟨w.heap.size, 0, none⟩), .slice (some ⟨b, off, none⟩) l.length scap, .int .i64 q, .pointer (some ⟨b, off + q * 3, none⟩), .pointer (some ⟨b, off + q * 3 + 1, none⟩), .int .i64 lo, .int .i64 (-lo), .map (some M), undef, .map (some N), .string sn, .pointer (some ⟨w.heap.size, 0, none⟩), .slice (some ⟨b, off, none⟩) l.length scap, .int .i64 q, .pointer (some ⟨b, off + q * 3, none⟩), .pointer (some ⟨b, off + q * 3 + 2, none⟩), .int .i64 hi, undef, undef, undef], []⟩ W := by
  intro M N W hM HA hN hne HB HS
  rw [hG.out]
  refine late_some 12 [15, 22] (by kernel_rfl) ?_
  refine List.forall_mem_cons.2 ⟨?_, List.forall_mem_cons.2 ⟨?_, List.forall_mem_cons.2 ⟨?_, List.forall_mem_nil _⟩⟩⟩
  · refine ⟨by decide, _, rfl, fun K hK => ?_⟩
    refine op_enter rfl 67 #[.map (some M)] (by kernel_rfl) ((HA.out.form (by omega)).mono ?_)
    rintro e W2 ⟨us, p, cp, rfl, hf, hrow, hul, hg⟩
    obtain ⟨h0, rfl⟩ := oneX_form HNe.out (by decide) hf
    rw [h0]
    have HS2 := gT HS.out hg
    refine ⟨_, rfl, hK _ _ HS2 ?_⟩
    have one_good : ∀ s ∈ [(sn, (1 : Int))], goodTerm s := fun s hs => by obtain rfl := List.mem_singleton.1 hs; exact ⟨hxs, by show -2000000000000 ≤ (1 : Int) ∧ (1 : Int) ≤ 2000000000000; omega⟩
    have h := st_5_1 M p cp N W2 hM (uH (terms_of_owns hrow (by simp) one_good)) hN (HB.out.kept hg) (uH HS2)
    rw [hG.out] at h
    exact late_same (by kernel_rfl) (by kernel_rfl) h
  · refine ⟨by decide, _, rfl, fun K hK => ?_⟩
    obtain ⟨W2, hr, ht, hg⟩ := HB.out.put (by omega) (x := sn) h3 (z := (-1)) (by omega)
    have HS2 := gO HS.out hg (fun k hk => by cases hk; exact hN)
    refine op_insert rfl _ _ _ _ rfl hr (hK _ _ HS2 ?_)
    have h := st_4_2 M N W2 hM (uH (HA.out.beside hg hne)) hN hne (uH ht) (uH HS2)
    rw [hG.out] at h
    exact late_same (by kernel_rfl) (by kernel_rfl) h
  · refine ⟨by decide, _, rfl, fun K hK => ?_⟩
    obtain ⟨W2, hr, ht, hg⟩ := HB.out.put (by omega) (x := ByteArray.empty) (Nat.zero_le _) (z := hi) (by omega)
    have HS2 := gO HS.out hg (fun k hk => by cases hk; exact hN)
    refine op_insert rfl _ _ _ _ rfl hr (hK _ _ HS2 ?_)
    have h := st_4_3 M N W2 hM (uH (HA.out.beside hg hne)) hN hne (uH ht) (uH HS2)
    rw [hG.out] at h
    exact late_same (by kernel_rfl) (by kernel_rfl) h
 have st_5_0 : ∀ (M : Nat) (p : Option Addr) (cp : Nat) (W : World), w2.heap.size ≤ M → Hid (TermsAt W (.slice p 1 cp) [(sn, 1)]) → Hid (w2.grownBy W none) → G 5 #[true, true, true, true, true, true, true, true, true, true, true, true, true, false, true, false, true, true, true, true, true, true, false, false, false, false, false] ⟨#[.agg #[.slice (some ⟨b, off, none⟩) l.length scap, cv], .string sn, .pointer (some ⟨w.heap.size, 0, none⟩), .pointer (some ⟨w.heap.size + 1, 0, none⟩), .slice none 0 0, .int .i64 q, .pointer (some ⟨w.heap.size, 0, none⟩), .slice (some ⟨b, off, none⟩) l.length scap, .func (.func 118) #[] #[.pointer (some ⟨w.heap.size + 1, 0, none⟩)], .int .i64 q, .map (some M), .string sn, .pointer (some ⟨w.heap.size, 0, none⟩), .slice (some ⟨b, off, none⟩) l.length scap, .int .i64 q, .pointer (some ⟨b, off + q * 3, none⟩), .pointer (some ⟨b, off + q * 3 + 1, none⟩), .int .i64 lo, .int .i64 (-lo), .map (some M), .agg #[.int .i64 (-lo), .slice p 1 cp], undef, .string sn, .pointer (some ⟨w.heap.size, 0, none⟩), .slice (some ⟨b, off, none⟩) l.length scap, .int .i64 q, .pointer (some ⟨b, off + q * 3, none⟩), .pointer (some ⟨b, off + q * 3 + 2, none⟩), .int .i64 hi, undef, undef, undef], []⟩ W := by
  intro M p cp W hM HA HS
  rw [hG.out]
  refine late_some 13 [] (by kernel_rfl) ?_
  refine List.forall_mem_cons.2 ⟨?_, List.forall_mem_nil _⟩
  · refine ⟨by decide, _, rfl, fun K hK => ?_⟩
    have hg := gA W (.map #[] 0) none
    have HS2 := gT HS.out hg
    refine op_makeMap rfl _ rfl (hK _ _ HS2 ?_)
    have h := st_5_1 M p cp W.heap.size ((W.alloc (.map #[] 0))) hM (HA.out.kept hg) HS.out.size (uH (TabW.made W)) (uH HS2)
    rw [hG.out] at h
    exact late_same (by kernel_rfl) (by kernel_rfl) h
 have st_0_4 : ∀ (N : Nat) (W : World), w2.heap.size ≤ N → Hid (TabW W N 2 (oneX sn (-1) hi)) → Hid (w2.grownBy W none) → G 6 #[false, true, false, true, true, true, true, true, true, true, false, false, false, true, true, true, true, true, true, true, true, true, true, true, false, false, false] ⟨#[.agg #[.slice (some ⟨b, off, none⟩) l.length scap, cv], .string sn, .pointer (some ⟨w.heap.size, 0, none⟩), .pointer (some ⟨w.heap.size + 1, 0, none⟩), .slice none 0 0, .int .i64 q, .pointer (some ⟨w.heap.size, 0, none⟩), .slice (some ⟨b, off, none⟩) l.length scap, .func (.func 118) #[] #[.pointer (some ⟨w.heap.size + 1, 0, none⟩)], .int .i64 q, undef, .string sn, .pointer (some ⟨w.heap.size, 0, none⟩), .slice (some ⟨b, off, none⟩) l.length scap, .int .i64 q, .pointer (some ⟨b, off + q * 3, none⟩), .pointer (some ⟨b, off + q * 3 + 1, none⟩), .int .i64 lo, .int .i64 (-lo), undef, undef, .map (some N), .string sn, .pointer (some ⟨w.heap.size, 0, none⟩), .slice (some ⟨b, off, none⟩) l.length scap, .int .i64 q, .pointer (some ⟨b, off + q * 3, none⟩), .pointer (some ⟨b, off + q * 3 + 2, none⟩), .int .i64 hi, .map (some N), undef, undef], []⟩ W := by
  intro N W hN HB HS
  rw [hG.out]
  refine late_some 0 [] (by kernel_rfl) ?_
  refine List.forall_mem_cons.2 ⟨?_, List.forall_mem_nil _⟩
  · refine ⟨by decide, _, rfl, fun K hK => ?_⟩
    have hg := gA W (.map #[] 0) none
    have HS2 := gT HS.out hg
    refine op_makeMap rfl _ rfl (hK _ _ HS2 ?_)
    have h := st_1_4 W.heap.size N ((W.alloc (.map #[] 0))) HS.out.size (uH (TabW.made W)) hN ((Nat.ne_of_gt HB.out.lt)) (HB.out.kept hg) (uH HS2)
    rw [hG.out] at h
    exact late_same (by kernel_rfl) (by kernel_rfl) h
 have st_2_2 : ∀ (M : Nat) (N : Nat) (W : World), w2.heap.size ≤ M → Hid (TabW W M 1 (fun m => if m = sn then 1 else 0)) → w2.heap.size ≤ N → M ≠ N → Hid (TabW W N 1 (fun m => if m = sn then -1 else 0)) → Hid (w2.grownBy W none) → G 6 #[true, true, true, true, true, true, true, true, true, true, false, false, false, true, true, true, true, true, true, true, true, true, false, false, false, false, false] ⟨#[.agg #[.slice (some ⟨b, off, none⟩) l.length scap, cv], .string sn, .pointer (some ⟨w.heap.size, 0, none⟩), .pointer (some ⟨w.heap.size + 1, 0, none⟩), .slice none 0 0, .int .i64 q, .pointer (some ⟨w.heap.size, 0, none⟩), .slice (some ⟨b, off, none⟩) l.length scap, .func (.func 118) #[] #[.pointer (some ⟨w.heap.size + 1, 0, none⟩)], .int .i64 q, .map (some M), .string sn, .pointer (some ⟨w.heap.size, 0, none⟩), .slice (some ⟨b, off, none⟩) l.length scap, .int .i64 q, .pointer (some ⟨b, off + q * 3, none⟩), .pointer (some ⟨b, off + q * 3 + 1, none⟩), .int .i64 lo, .int .i64 (-lo), undef, undef, .map (some N), .string sn, .pointer (some ⟨w.heap.size, 0, none⟩), .slice (some ⟨b, off, none⟩) l.length scap, .int .i64 q, .pointer (some ⟨b, off + q * 3, none⟩), .pointer (some ⟨b, off + q * 3 + 2, none⟩), .int .i64 hi, undef, undef, undef], []⟩ W := by
  intro M N W hM HA hN hne HB HS
  rw [hG.out]
  refine late_some 10 [22] (by kernel_rfl) ?_
  refine List.forall_mem_cons.2 ⟨?_, List.forall_mem_cons.2 ⟨?_, List.forall_mem_nil _⟩⟩
  · refine ⟨by decide, _, rfl, fun K hK => ?_⟩
    obtain ⟨W2, hr, ht, hg⟩ := HA.out.put (by omega) (x := ByteArray.empty) (Nat.zero_le _) (z := (-lo)) (by omega)
    have HS2 := gO HS.out hg (fun k hk => by cases hk; exact hM)
    refine op_insert rfl _ _ _ _ rfl hr (hK _ _ HS2 ?_)
    refine late_take (i := 11) (v := .map (some M)) ⟨by kernel_rfl, by kernel_rfl, by kernel_rfl, by decide⟩ rfl (by decide +kernel) (by decide +kernel) (by decide +kernel) (fun _ _ _ h => h) (Or.inl ⟨by rfl, fun W _ => by kernel_rfl⟩) HS2 ?_
    have h := st_4_2 M N W2 hM (uH (ht.cong (oneX_a))) hN hne (uH (HB.out.beside hg (fun e => hne e.symm))) (uH HS2)
    rw [hG.out] at h
    exact late_same (by kernel_rfl) (by kernel_rfl) h
  · refine ⟨by decide, _, rfl, fun K hK => ?_⟩
    obtain ⟨W2, hr, ht, hg⟩ := HB.out.put (by omega) (x := ByteArray.empty) (Nat.zero_le _) (z := hi) (by omega)
    have HS2 := gO HS.out hg (fun k hk => by cases hk; exact hN)
    refine op_insert rfl _ _ _ _ rfl hr (hK _ _ HS2 ?_)
    refine late_take (i := 23) (v := .map (some N)) ⟨by kernel_rfl, by kernel_rfl, by kernel_rfl, by decide⟩ rfl (by decide +kernel) (by decide +kernel) (by decide +kernel) (fun _ _ _ h => h) (Or.inl ⟨by rfl, fun W _ => by kernel_rfl⟩) HS2 ?_
    have h := st_2_4 M N W2 hM (uH (HA.out.beside hg hne)) hN hne (uH (ht.cong (oneX_a))) (uH HS2)
    rw [hG.out] at h
    exact late_same (by kernel_rfl) (by kernel_rfl) h
 have st_2_3 : ∀ (M : Nat) (N : Nat) (W : World), w2.heap.size ≤ M → Hid (TabW W M 1 (fun m => if m = sn then 1 else 0)) → w2.heap.size ≤ N → M ≠ N → Hid (TabW W N 1 (fun m => if m = ByteArray.empty then hi else 0)) → Hid (w2.grownBy W none) → G 6 #[true, true, true, true, true, true, true, true, true, true, false, false, false, true, true, false, true, true, true, true, true, true, true, false, false, false, false] ⟨#[.agg #[.slice (some ⟨b, off, none⟩) l.length scap, cv], .string sn, .pointer (some ⟨w.heap.size, 0, none⟩), .pointer (some ⟨w.heap.size + 1, 0, none⟩), .slice none 0 0, .int .i64 q, .pointer (some ⟨w.heap.size, 0, none⟩), .slice (some ⟨b, off, none⟩) l.length scap, .func (.func 118) #[] #[.pointer (some ⟨w.heap.size + 1, 0, none⟩)], .int .i64 q, .map (some M), .string sn, .pointer (some ⟨w.heap.size, 0, none⟩), .slice (some ⟨b, off, none⟩) l.length scap, .int .i64 q, .pointer (some ⟨b, off + q * 3, none⟩), .pointer (some ⟨b, off + q * 3 + 1, none⟩), .int .i64 lo, .int .i64 (-lo), undef, undef, .map (some N), .string sn, .pointer (some ⟨w.heap.size, 0, none⟩), .slice (some ⟨b, off, none⟩) l.length scap, .int .i64 q, .pointer (some ⟨b, off + q * 3, none⟩), .pointer (some ⟨b, off + q * 3 + 2, none⟩), .int .i64 hi, undef, undef, undef], []⟩ W := by
  intro M N W hM HA hN hne HB HS
  rw [hG.out]
  refine late_some 10 [15] (by kernel_rfl) ?_
  refine List.forall_mem_cons.2 ⟨?_, List.forall_mem_cons.2 ⟨?_, List.forall_mem_nil _⟩⟩
  · refine ⟨by decide, _, rfl, fun K hK => ?_⟩
    obtain ⟨W2, hr, ht, hg⟩ := HA.out.put (by omega) (x := ByteArray.empty) (Nat.zero_le _) (z := (-lo)) (by omega)
    have HS2 := gO HS.out hg (fun k hk => by cases hk; exact hM)
    refine op_insert rfl _ _ _ _ rfl hr (hK _ _ HS2 ?_)
    refine late_take (i := 11) (v := .map (some M)) ⟨by kernel_rfl, by kernel_rfl, by kernel_rfl, by decide⟩ rfl (by decide +kernel) (by decide +kernel) (by decide +kernel) (fun _ _ _ h => h) (Or.inl ⟨by rfl, fun W _ => by kernel_rfl⟩) HS2 ?_
    have h := st_4_3 M N W2 hM (uH (ht.cong (oneX_a))) hN hne (uH (HB.out.beside hg (fun e => hne e.symm))) (uH HS2)
    rw [hG.out] at h
    exact late_same (by kernel_rfl) (by kernel_rfl) h
  · refine ⟨by decide, _, rfl, fun K hK => ?_⟩
    obtain ⟨W2, hr, ht, hg⟩ := HB.out.put (by omega) (x := sn) h3 (z := (-1)) (by omega)
    have HS2 := gO HS.out hg (fun k hk => by cases hk; exact hN)
    refine op_insert rfl _ _ _ _ rfl hr (hK _ _ HS2 ?_)
    refine late_take (i := 23) (v := .map (some N)) ⟨by kernel_rfl, by kernel_rfl, by kernel_rfl, by decide⟩ rfl (by decide +kernel) (by decide +kernel) (by decide +kernel) (fun _ _ _ h => h) (Or.inl ⟨by rfl, fun W _ => by kernel_rfl⟩) HS2 ?_
    have h := st_2_4 M N W2 hM (uH (HA.out.beside hg hne)) hN hne (uH (ht.cong (oneX_b HNe.out))) (uH HS2)
    rw [hG.out] at h
    exact late_same (by kernel_rfl) (by kernel_rfl) h
 have st_3_2 : ∀ (M : Nat) (N : Nat) (W : World), w2.heap.size ≤ M → Hid (TabW W M 1 (fun m => if m = ByteArray.empty then -lo else 0)) → w2.heap.size ≤ N → M ≠ N → Hid (TabW W N 1 (fun m => if m = sn then -1 else 0)) → Hid (w2.grownBy W none) → G 6 #[true, true, false, true, true, true, true, true, true, true, true, false, false, true, true, true, true, true, true, true, true, true, false, false, false, false, false] ⟨#[.agg #[.slice (some ⟨b, off, none⟩) l.length scap, cv], .string sn, .pointer (some ⟨w.heap.size, 0, none⟩), .pointer (some ⟨w.heap.size + 1, 0, none⟩), .slice none 0 0, .int .i64 q, .pointer (some ⟨w.heap.size, 0, none⟩), .slice (some ⟨b, off, none⟩) l.length scap, .func (.func 118) #[] #[.pointer (some ⟨w.heap.size + 1, 0, none⟩)], .int .i64 q, .map (some M), .string sn, .pointer (some ⟨w.heap.size, 0, none⟩), .slice (some ⟨b, off, none⟩) l.length scap, .int .i64 q, .pointer (some ⟨b, off + q * 3, none⟩), .pointer (some ⟨b, off + q * 3 + 1, none⟩), .int .i64 lo, .int .i64 (-lo), undef, undef, .map (some N), .string sn, .pointer (some ⟨w.heap.size, 0, none⟩), .slice (some ⟨b, off, none⟩) l.length scap, .int .i64 q, .pointer (some ⟨b, off + q * 3, none⟩), .pointer (some ⟨b, off + q * 3 + 2, none⟩), .int .i64 hi, undef, undef, undef], []⟩ W := by
  intro M N W hM HA hN hne HB HS
  rw [hG.out]
  refine late_some 2 [22] (by kernel_rfl) ?_
  refine List.forall_mem_cons.2 ⟨?_, List.forall_mem_cons.2 ⟨?_, List.forall_mem_nil _⟩⟩
  · refine ⟨by decide, _, rfl, fun K hK => ?_⟩
    obtain ⟨W2, hr, ht, hg⟩ := HA.out.put (by omega) (x := sn) h3 (z := 1) (by omega)
    have HS2 := gO HS.out hg (fun k hk => by cases hk; exact hM)
    refine op_insert rfl _ _ _ _ rfl hr (hK _ _ HS2 ?_)
    refine late_take (i := 11) (v := .map (some M)) ⟨by kernel_rfl, by kernel_rfl, by kernel_rfl, by decide⟩ rfl (by decide +kernel) (by decide +kernel) (by decide +kernel) (fun _ _ _ h => h) (Or.inl ⟨by rfl, fun W _ => by kernel_rfl⟩) HS2 ?_
    have h := st_4_2 M N W2 hM (uH (ht.cong (oneX_b HNe.out))) hN hne (uH (HB.out.beside hg (fun e => hne e.symm))) (uH HS2)
    rw [hG.out] at h
    exact late_same (by kernel_rfl) (by kernel_rfl) h
  · refine ⟨by decide, _, rfl, fun K hK => ?_⟩
    obtain ⟨W2, hr, ht, hg⟩ := HB.out.put (by omega) (x := ByteArray.empty) (Nat.zero_le _) (z := hi) (by omega)
    have HS2 := gO HS.out hg (fun k hk => by cases hk; exact hN)
    refine op_insert rfl _ _ _ _ rfl hr (hK _ _ HS2 ?_)
    refine late_take (i := 23) (v := .map (some N)) ⟨by kernel_rfl, by kernel_rfl, by kernel_rfl, by decide⟩ rfl (by decide +kernel) (by decide +kernel) (by decide +kernel) (fun _ _ _ h => h) (Or.inl ⟨by rfl, fun W _ => by kernel_rfl⟩) HS2 ?_
    have h := st_3_4 M N W2 hM (uH (HA.out.beside hg hne)) hN hne (uH (ht.cong (oneX_a))) (uH HS2)
    rw [hG.out] at h
    exact late_same (by kernel_rfl) (by kernel_rfl) h
 have st_3_3 : ∀ (M : Nat) (N : Nat) (W : World), w2.heap.size ≤ M → Hid (TabW W M 1 (fun m => if m = ByteArray.empty then -lo else 0)) → w2.heap.size ≤ N → M ≠ N → Hid (TabW W N 1 (fun m => if m = ByteArray.empty then hi else 0)) → Hid (w2.grownBy W none) → G 6 #[true, true, false, true, true, true, true, true, true, true, true, false, false, true, true, false, true, true, true, true, true, true, true, false, false, false, false] ⟨#[.agg #[.slice (some ⟨b, off, none⟩) l.length scap, cv], .string sn, .pointer (some ⟨w.heap.size, 0, none⟩), .pointer (some ⟨w.heap.size + 1, 0, none⟩), .slice none 0 0, .int .i64 q, .pointer (some ⟨w.heap.size, 0, none⟩), .slice (some ⟨b, off, none⟩) l.length scap, .func (.func 118) #[] #[.pointer (some ⟨w.heap.size + 1, 0, none⟩)], .int .i64 q, .map (some M), .string sn, .pointer (some ⟨w.heap.size, 0, none⟩), .slice (some ⟨b, off, none⟩) l.length scap, .int .i64 q, .pointer (some ⟨b, off + q * 3, none⟩), .pointer (some ⟨b, off + q * 3 + 1, none⟩), .int .i64 lo, .int .i64 (-lo), undef, undef, .map (some N), .string sn, .pointer (some ⟨w.heap.size, 0, none⟩), .slice (some ⟨b, off, none⟩) l.length scap, .int .i64 q, .pointer (some ⟨b, off + q * 3, none⟩), .pointer (some ⟨b, off + q * 3 + 2, none⟩), .int .i64 hi, undef, undef, undef], []⟩ W := by
  intro M N W hM HA hN hne HB HS
  rw [hG.out]
  refine late_some 2 [15] (by kernel_rfl) ?_
  refine List.forall_mem_cons.2 ⟨?_, List.forall_mem_cons.2 ⟨?_, List.forall_mem_nil _⟩⟩
  · refine ⟨by decide, _, rfl, fun K hK => ?_⟩
    obtain ⟨W2, hr, ht, hg⟩ := HA.out.put (by omega) (x := sn) h3 (z := 1) (by omega)
    have HS2 := gO HS.out hg (fun k hk => by cases hk; exact hM)
    refine op_insert rfl _ _ _ _ rfl hr (hK _ _ HS2 ?_)
    refine late_take (i := 11) (v := .map (some M)) ⟨by kernel_rfl, by kernel_rfl, by kernel_rfl, by decide⟩ rfl (by decide +kernel) (by decide +kernel) (by decide +kernel) (fun _ _ _ h => h) (Or.inl ⟨by rfl, fun W _ => by kernel_rfl⟩) HS2 ?_
    have h := st_4_3 M N W2 hM (uH (ht.cong (oneX_b HNe.out))) hN hne (uH (HB.out.beside hg (fun e => hne e.symm))) (uH HS2)
    rw [hG.out] at h
    exact late_same (by kernel_rfl) (by kernel_rfl) h
  · refine ⟨by decide, _, rfl, fun K hK => ?_⟩
    obtain ⟨W2, hr, ht, hg⟩ := HB.out.put (by omega) (x := sn) h3 (z := (-1)) (by omega)
    have HS2 := gO HS.out hg (fun k hk => by cases hk; exact hN)
    refine op_insert rfl _ _ _ _ rfl hr (hK _ _ HS2 ?_)
    refine late_take (i := 23) (v := .map (some N)) ⟨by kernel_rfl, by kernel_rfl, by kernel_rfl, by decide⟩ rfl (by decide +kernel) (by decide +kernel) (by decide +kernel) (fun _ _ _ h => h) (Or.inl ⟨by rfl, fun W _ => by kernel_rfl⟩) HS2 ?_
    have h := st_3_4 M N W2 hM (uH (HA.out.beside hg hne)) hN hne (uH (ht.cong (oneX_b HNe.out))) (uH HS2)
    rw [hG.out] at h
    exact late_same (by kernel_rfl) (by kernel_rfl) h
 have st_4_0 : ∀ (M : Nat) (W : World), w2.heap.size ≤ M → Hid (TabW W M 2 (oneX sn 1 (-lo))) → Hid (w2.grownBy W none) → G 6 #[true, true, true, true, true, true, true, true, true, true, true, true, false, false, true, false, true, true, true, true, true, true, false, false, false, false, false] ⟨#[.agg #[.slice (some ⟨b, off, none⟩) l.length scap, cv], .string sn, .pointer (some ⟨w.heap.size, 0, none⟩), .pointer (some ⟨w.heap.size + 1, 0, none⟩), .slice none 0 0, .int .i64 q, .pointer (some ⟨w.heap.size, 0, none⟩), .slice (some ⟨b, off, none⟩) l.length scap, .func (.func 118) #[] #[.pointer (some ⟨w.heap.size + 1, 0, none⟩)], .int .i64 q, .map (some M), .string sn, .pointer (some ⟨w.heap.size, 0, none⟩), .slice (some ⟨b, off, none⟩) l.length scap, .int .i64 q, .pointer (some ⟨b, off + q * 3, none⟩), .pointer (some ⟨b, off + q * 3 + 1, none⟩), .int .i64 lo, .int .i64 (-lo), .map (some M), undef, undef, .string sn, .pointer (some ⟨w.heap.size, 0, none⟩), .slice (some ⟨b, off, none⟩) l.length scap, .int .i64 q, .pointer (some ⟨b, off + q * 3, none⟩), .pointer (some ⟨b, off + q * 3 + 2, none⟩), .int .i64 hi, undef, undef, undef], []⟩ W := by
  intro M W hM HA HS
  rw [hG.out]
  refine late_some 12 [13] (by kernel_rfl) ?_
  refine List.forall_mem_cons.2 ⟨?_, List.forall_mem_cons.2 ⟨?_, List.forall_mem_nil _⟩⟩
  · refine ⟨by decide, _, rfl, fun K hK => ?_⟩
    refine op_enter rfl 67 #[.map (some M)] (by kernel_rfl) ((HA.out.form (by omega)).mono ?_)
    rintro e W2 ⟨us, p, cp, rfl, hf, hrow, hul, hg⟩
    obtain ⟨h0, rfl⟩ := oneX_form HNe.out (by decide) hf
    rw [h0]
    have HS2 := gT HS.out hg
    refine ⟨_, rfl, hK _ _ HS2 ?_⟩
    have one_good : ∀ s ∈ [(sn, (1 : Int))], goodTerm s := fun s hs => by obtain rfl := List.mem_singleton.1 hs; exact ⟨hxs, by show -2000000000000 ≤ (1 : Int) ∧ (1 : Int) ≤ 2000000000000; omega⟩
    have h := st_5_0 M p cp W2 hM (uH (terms_of_owns hrow (by simp) one_good)) (uH HS2)
    rw [hG.out] at h
    exact late_same (by kernel_rfl) (by kernel_rfl) h
  · refine ⟨by decide, _, rfl, fun K hK => ?_⟩
    have hg := gA W (.map #[] 0) none
    have HS2 := gT HS.out hg
    refine op_makeMap rfl _ rfl (hK _ _ HS2 ?_)
    have h := st_4_1 M W.heap.size ((W.alloc (.map #[] 0))) hM (HA.out.kept hg) HS.out.size ((Nat.ne_of_lt HA.out.lt)) (uH (TabW.made W)) (uH HS2)
    rw [hG.out] at h
    exact late_same (by kernel_rfl) (by kernel_rfl) h
 have st_1_2 : ∀ (M : Nat) (N : Nat) (W : World), w2.heap.size ≤ M → Hid (TabW W M 0 (fun _ => 0)) → w2.heap.size ≤ N → M ≠ N → Hid (TabW W N 1 (fun m => if m = sn then -1 else 0)) → Hid (w2.grownBy W none) → G 7 #[true, true, false, true, true, true, true, true, true, true, false, false, false, true, true, true, true, true, true, true, true, true, false, false, false, false, false] ⟨#[.agg #[.slice (some ⟨b, off, none⟩) l.length scap, cv], .string sn, .pointer (some ⟨w.heap.size, 0, none⟩), .pointer (some ⟨w.heap.size + 1, 0, none⟩), .slice none 0 0, .int .i64 q, .pointer (some ⟨w.heap.size, 0, none⟩), .slice (some ⟨b, off, none⟩) l.length scap, .func (.func 118) #[] #[.pointer (some ⟨w.heap.size + 1, 0, none⟩)], .int .i64 q, .map (some M), .string sn, .pointer (some ⟨w.heap.size, 0, none⟩), .slice (some ⟨b, off, none⟩) l.length scap, .int .i64 q, .pointer (some ⟨b, off + q * 3, none⟩), .pointer (some ⟨b, off + q * 3 + 1, none⟩), .int .i64 lo, .int .i64 (-lo), undef, undef, .map (some N), .string sn, .pointer (some ⟨w.heap.size, 0, none⟩), .slice (some ⟨b, off, none⟩) l.length scap, .int .i64 q, .pointer (some ⟨b, off + q * 3, none⟩), .pointer (some ⟨b, off + q * 3 + 2, none⟩), .int .i64 hi, undef, undef, undef], []⟩ W := by
  intro M N W hM HA hN hne HB HS
  rw [hG.out]
  refine late_some 2 [10, 22] (by kernel_rfl) ?_
  refine List.forall_mem_cons.2 ⟨?_, List.forall_mem_cons.2 ⟨?_, List.forall_mem_cons.2 ⟨?_, List.forall_mem_nil _⟩⟩⟩
  · refine ⟨by decide, _, rfl, fun K hK => ?_⟩
    obtain ⟨W2, hr, ht, hg⟩ := HA.out.put (by omega) (x := sn) h3 (z := 1) (by omega)
    have HS2 := gO HS.out hg (fun k hk => by cases hk; exact hM)
    refine op_insert rfl _ _ _ _ rfl hr (hK _ _ HS2 ?_)
    have h := st_2_2 M N W2 hM (uH ht) hN hne (uH (HB.out.beside hg (fun e => hne e.symm))) (uH HS2)
    rw [hG.out] at h
    exact late_same (by kernel_rfl) (by kernel_rfl) h
  · refine ⟨by decide, _, rfl, fun K hK => ?_⟩
    obtain ⟨W2, hr, ht, hg⟩ := HA.out.put (by omega) (x := ByteArray.empty) (Nat.zero_le _) (z := (-lo)) (by omega)
    have HS2 := gO HS.out hg (fun k hk => by cases hk; exact hM)
    refine op_insert rfl _ _ _ _ rfl hr (hK _ _ HS2 ?_)
    have h := st_3_2 M N W2 hM (uH ht) hN hne (uH (HB.out.beside hg (fun e => hne e.symm))) (uH HS2)
    rw [hG.out] at h
    exact late_same (by kernel_rfl) (by kernel_rfl) h
  · refine ⟨by decide, _, rfl, fun K hK => ?_⟩
    obtain ⟨W2, hr, ht, hg⟩ := HB.out.put (by omega) (x := ByteArray.empty) (Nat.zero_le _) (z := hi) (by omega)
    have HS2 := gO HS.out hg (fun k hk => by cases hk; exact hN)
    refine op_insert rfl _ _ _ _ rfl hr (hK _ _ HS2 ?_)
    refine late_take (i := 23) (v := .map (some N)) ⟨by kernel_rfl, by kernel_rfl, by kernel_rfl, by decide⟩ rfl (by decide +kernel) (by decide +kernel) (by decide +kernel) (fun _ _ _ h => h) (Or.inl ⟨by rfl, fun W _ => by kernel_rfl⟩) HS2 ?_
    have h := st_1_4 M N W2 hM (uH (HA.out.beside hg hne)) hN hne (uH (ht.cong (oneX_a))) (uH HS2)
    rw [hG.out] at h
    exact late_same (by kernel_rfl) (by kernel_rfl) h
 have st_1_3 : ∀ (M : Nat) (N : Nat) (W : World), w2.heap.size ≤ M → Hid (TabW W M 0 (fun _ => 0)) → w2.heap.size ≤ N → M ≠ N → Hid (TabW W N 1 (fun m => if m = ByteArray.empty then hi else 0)) → Hid (w2.grownBy W none) → G 7 #[true, true, false, true, true, true, true, true, true, true, false, false, false, true, true, false, true, true, true, true, true, true, true, false, false, false, false] ⟨#[.agg #[.slice (some ⟨b, off, none⟩) l.length scap, cv], .string sn, .pointer (some ⟨w.heap.size, 0, none⟩), .pointer (some ⟨w.heap.size + 1, 0, none⟩), .slice none 0 0, .int .i64 q, .pointer (some ⟨w.heap.size, 0, none⟩), .slice (some ⟨b, off, none⟩) l.length scap, .func (.func 118) #[] #[.pointer (some ⟨w.heap.size + 1, 0, none⟩)], .int .i64 q, .map (some M), .string sn, .pointer (some ⟨w.heap.size, 0, none⟩), .slice (some ⟨b, off, none⟩) l.length scap, .int .i64 q, .pointer (some ⟨b, off + q * 3, none⟩), .pointer (some ⟨b, off + q * 3 + 1, none⟩), .int .i64 lo, .int .i64 (-lo), undef, undef, .map (some N), .string sn, .pointer (some ⟨w.heap.size, 0, none⟩), .slice (some ⟨b, off, none⟩) l.length scap, .int .i64 q, .pointer (some ⟨b, off + q * 3, none⟩), .pointer (some ⟨b, off + q * 3 + 2, none⟩), .int .i64 hi, undef, undef, undef], []⟩ W := by
  intro M N W hM HA hN hne HB HS
  rw [hG.out]
  refine late_some 2 [10, 15] (by kernel_rfl) ?_
  refine List.forall_mem_cons.2 ⟨?_, List.forall_mem_cons.2 ⟨?_, List.forall_mem_cons.2 ⟨?_, List.forall_mem_nil _⟩⟩⟩
  · refine ⟨by decide, _, rfl, fun K hK => ?_⟩
    obtain ⟨W2, hr, ht, hg⟩ := HA.out.put (by omega) (x := sn) h3 (z := 1) (by omega)
    have HS2 := gO HS.out hg (fun k hk => by cases hk; exact hM)
    refine op_insert rfl _ _ _ _ rfl hr (hK _ _ HS2 ?_)
    have h := st_2_3 M N W2 hM (uH ht) hN hne (uH (HB.out.beside hg (fun e => hne e.symm))) (uH HS2)
    rw [hG.out] at h
    exact late_same (by kernel_rfl) (by kernel_rfl) h
  · refine ⟨by decide, _, rfl, fun K hK => ?_⟩
    obtain ⟨W2, hr, ht, hg⟩ := HA.out.put (by omega) (x := ByteArray.empty) (Nat.zero_le _) (z := (-lo)) (by omega)
    have HS2 := gO HS.out hg (fun k hk => by cases hk; exact hM)
    refine op_insert rfl _ _ _ _ rfl hr (hK _ _ HS2 ?_)
    have h := st_3_3 M N W2 hM (uH ht) hN hne (uH (HB.out.beside hg (fun e => hne e.symm))) (uH HS2)
    rw [hG.out] at h
    exact late_same (by kernel_rfl) (by kernel_rfl) h
  · refine ⟨by decide, _, rfl, fun K hK => ?_⟩
    obtain ⟨W2, hr, ht, hg⟩ := HB.out.put (by omega) (x := sn) h3 (z := (-1)) (by omega)
    have HS2 := gO HS.out hg (fun k hk => by cases hk; exact hN)
    refine op_insert rfl _ _ _ _ rfl hr (hK _ _ HS2 ?_)
    refine late_take (i := 23) (v := .map (some N)) ⟨by kernel_rfl, by kernel_rfl, by kernel_rfl, by decide⟩ rfl (by decide +kernel) (by decide +kernel) (by decide +kernel) (fun _ _ _ h => h) (Or.inl ⟨by rfl, fun W _ => by kernel_rfl⟩) HS2 ?_
    have h := st_1_4 M N W2 hM (uH (HA.out.beside hg hne)) hN hne (uH (ht.cong (oneX_b HNe.out))) (uH HS2)
    rw [hG.out] at h
    exact late_same (by kernel_rfl) (by kernel_rfl) h
 have st_2_1 : ∀ (M : Nat) (N : Nat) (W : World), w2.heap.size ≤ M → Hid (TabW W M 1 (fun m => if m = sn then 1 else 0)) → w2.heap.size ≤ N → M ≠ N → Hid (TabW W N 0 (fun _ => 0)) → Hid (w2.grownBy W none) → G 7 #[true, true, true, true, true, true, true, true, true, true, false, false, false, true, true, false, true, true, true, true, true, true, false, false, false, false, false] ⟨#[.agg #[.slice (some ⟨b, off, none⟩) l.length scap, cv], .string sn, .pointer (some ⟨w.heap.size, 0, none⟩), .pointer (some ⟨w.heap.size + 1, 0, none⟩), .slice none 0 0, .int .i64 q, .pointer (some ⟨w.heap.size, 0, none⟩), .slice (some ⟨b, off, none⟩) l.length scap, .func (.func 118) #[] #[.pointer (some ⟨w.heap.size + 1, 0, none⟩)], .int .i64 q, .map (some M), .string sn, .pointer (some ⟨w.heap.size, 0, none⟩), .slice (some ⟨b, off, none⟩) l.length scap, .int .i64 q, .pointer (some ⟨b, off + q * 3, none⟩), .pointer (some ⟨b, off + q * 3 + 1, none⟩), .int .i64 lo, .int .i64 (-lo), undef, undef, .map (some N), .string sn, .pointer (some ⟨w.heap.size, 0, none⟩), .slice (some ⟨b, off, none⟩) l.length scap, .int .i64 q, .pointer (some ⟨b, off + q * 3, none⟩), .pointer (some ⟨b, off + q * 3 + 2, none⟩), .int .i64 hi, undef, undef, undef], []⟩ W := by
  intro M N W hM HA hN hne HB HS
  rw [hG.out]
  refine late_some 10 [15, 22] (by kernel_rfl) ?_
  refine List.forall_mem_cons.2 ⟨?_, List.forall_mem_cons.2 ⟨?_, List.forall_mem_cons.2 ⟨?_, List.forall_mem_nil _⟩⟩⟩
  · refine ⟨by decide, _, rfl, fun K hK => ?_⟩
    obtain ⟨W2, hr, ht, hg⟩ := HA.out.put (by omega) (x := ByteArray.empty) (Nat.zero_le _) (z := (-lo)) (by omega)
    have HS2 := gO HS.out hg (fun k hk => by cases hk; exact hM)
    refine op_insert rfl _ _ _ _ rfl hr (hK _ _ HS2 ?_)
    refine late_take (i := 11) (v := .map (some M)) ⟨by kernel_rfl, by kernel_rfl, by kernel_rfl, by decide⟩ rfl (by decide +kernel) (by decide +kernel) (by decide +kernel) (fun _ _ _ h => h) (Or.inl ⟨by rfl, fun W _ => by kernel_rfl⟩) HS2 ?_
    have h := st_4_1 M N W2 hM (uH (ht.cong (oneX_a))) hN hne (uH (HB.out.beside hg (fun e => hne e.symm))) (uH HS2)
    rw [hG.out] at h
    exact late_same (by kernel_rfl) (by kernel_rfl) h
  · refine ⟨by decide, _, rfl, fun K hK => ?_⟩
    obtain ⟨W2, hr, ht, hg⟩ := HB.out.put (by omega) (x := sn) h3 (z := (-1)) (by omega)
    have HS2 := gO HS.out hg (fun k hk => by cases hk; exact hN)
    refine op_insert rfl _ _ _ _ rfl hr (hK _ _ HS2 ?_)
    have h := st_2_2 M N W2 hM (uH (HA.out.beside hg hne)) hN hne (uH ht) (uH HS2)
    rw [hG.out] at h
    exact late_same (by kernel_rfl) (by kernel_rfl) h
  · refine ⟨by decide, _, rfl, fun K hK => ?_⟩
    obtain ⟨W2, hr, ht, hg⟩ := HB.out.put (by omega) (x := ByteArray.empty) (Nat.zero_le _) (z := hi) (by omega)
    have HS2 := gO HS.out hg (fun k hk => by cases hk; exact hN)
    refine op_insert rfl _ _ _ _ rfl hr (hK _ _ HS2 ?_)
    have h := st_2_3 M N W2 hM (uH (HA.out.beside hg hne)) hN hne (uH ht) (uH HS2)
    rw [hG.out] at h
    exact late_same (by kernel_rfl) (by kernel_rfl) h
 have st_3_1 : ∀ (M : Nat) (N : Nat) (W : World), w2.heap.size ≤ M → Hid (TabW W M 1 (fun m => if m = ByteArray.empty then -lo else 0)) → w2.heap.size ≤ N → M ≠ N → Hid (TabW W N 0 (fun _ => 0)) → Hid (w2.grownBy W none) → G 7 #[true, true, false, true, true, true, true, true, true, true, true, false, false, true, true, false, true, true, true, true, true, true, false, false, false, false, false] ⟨#[.agg #[.slice (some ⟨b, off, none⟩) l.length scap, cv], .string sn, .pointer (some ⟨w.heap.size, 0, none⟩), .pointer (some ⟨w.heap.size + 1, 0, none⟩), .slice none 0 0, .int .i64 q, .pointer (some ⟨w.heap.size, 0, none⟩), .slice (some ⟨b, off, none⟩) l.length scap, .func (.func 118) #[] #[.pointer (some ⟨w.heap.size + 1, 0, none⟩)], .int .i64 q, .map (some M), .string sn, .pointer (some ⟨w.heap.size, 0, none⟩), .slice (some ⟨b, off, none⟩) l.length scap, .int .i64 q, .pointer (some ⟨b, off + q * 3, none⟩), .pointer (some ⟨b, off + q * 3 + 1, none⟩), .int .i64 lo, .int .i64 (-lo), undef, undef, .map (some N), .string sn, .pointer (some ⟨w.heap.size, 0, none⟩), .slice (some ⟨b, off, none⟩) l.length scap, .int .i64 q, .pointer (some ⟨b, off + q * 3, none⟩), .pointer (some ⟨b, off + q * 3 + 2, none⟩), .int .i64 hi, undef, undef, undef], []⟩ W := by
  intro M N W hM HA hN hne HB HS
  rw [hG.out]
  refine late_some 2 [15, 22] (by kernel_rfl) ?_
  refine List.forall_mem_cons.2 ⟨?_, List.forall_mem_cons.2 ⟨?_, List.forall_mem_cons.2 ⟨?_, List.forall_mem_nil _⟩⟩⟩
  · refine ⟨by decide, _, rfl, fun K hK => ?_⟩
    obtain ⟨W2, hr, ht, hg⟩ := HA.out.put (by omega) (x := sn) h3 (z := 1) (by omega)
    have HS2 := gO HS.out hg (fun k hk => by cases hk; exact hM)
    refine op_insert rfl _ _ _ _ rfl hr (hK _ _ HS2 ?_)
    refine late_take (i := 11) (v := .map (some M)) ⟨by kernel_rfl, by kernel_rfl, by kernel_rfl, by decide⟩ rfl (by decide +kernel) (by decide +kernel) (by decide +kernel) (fun _ _ _ h => h) (Or.inl ⟨by rfl, fun W _ => by kernel_rfl⟩) HS2 ?_
    have h := st_4_1 M N W2 hM (uH (ht.cong (oneX_b HNe.out))) hN hne (uH (HB.out.beside hg (fun e => hne e.symm))) (uH HS2)
    rw [hG.out] at h
    exact late_same (by kernel_rfl) (by kernel_rfl) h
  · refine ⟨by decide, _, rfl, fun K hK => ?_⟩
    obtain ⟨W2, hr, ht, hg⟩ := HB.out.put (by omega) (x := sn) h3 (z := (-1)) (by omega)
    have HS2 := gO HS.out hg (fun k hk => by cases hk; exact hN)
    refine op_insert rfl _ _ _ _ rfl hr (hK _ _ HS2 ?_)
    have h := st_3_2 M N W2 hM (uH (HA.out.beside hg hne)) hN hne (uH ht) (uH HS2)
    rw [hG.out] at h
    exact late_same (by kernel_rfl) (by kernel_rfl) h
  · refine ⟨by decide, _, rfl, fun K hK => ?_⟩
    obtain ⟨W2, hr, ht, hg⟩ := HB.out.put (by omega) (x := ByteArray.empty) (Nat.zero_le _) (z := hi) (by omega)
    have HS2 := gO HS.out hg (fun k hk => by cases hk; exact hN)
    refine op_insert rfl _ _ _ _ rfl hr (hK _ _ HS2 ?_)
    have h := st_3_3 M N W2 hM (uH (HA.out.beside hg hne)) hN hne (uH ht) (uH HS2)
    rw [hG.out] at h
    exact late_same (by kernel_rfl) (by kernel_rfl) h
 have st_0_2 : ∀ (N : Nat) (W : World), w2.heap.size ≤ N → Hid (TabW W N 1 (fun m => if m = sn then -1 else 0)) → Hid (w2.grownBy W none) → G 8 #[false, true, false, true, true, true, true, true, true, true, false, false, false, true, true, true, true, true, true, true, true, true, false, false, false, false, false] ⟨#[.agg #[.slice (some ⟨b, off, none⟩) l.length scap, cv], .string sn, .pointer (some ⟨w.heap.size, 0, none⟩), .pointer (some ⟨w.heap.size + 1, 0, none⟩), .slice none 0 0, .int .i64 q, .pointer (some ⟨w.heap.size, 0, none⟩), .slice (some ⟨b, off, none⟩) l.length scap, .func (.func 118) #[] #[.pointer (some ⟨w.heap.size + 1, 0, none⟩)], .int .i64 q, undef, .string sn, .pointer (some ⟨w.heap.size, 0, none⟩), .slice (some ⟨b, off, none⟩) l.length scap, .int .i64 q, .pointer (some ⟨b, off + q * 3, none⟩), .pointer (some ⟨b, off + q * 3 + 1, none⟩), .int .i64 lo, .int .i64 (-lo), undef, undef, .map (some N), .string sn, .pointer (some ⟨w.heap.size, 0, none⟩), .slice (some ⟨b, off, none⟩) l.length scap, .int .i64 q, .pointer (some ⟨b, off + q * 3, none⟩), .pointer (some ⟨b, off + q * 3 + 2, none⟩), .int .i64 hi, undef, undef, undef], []⟩ W := by
  intro N W hN HB HS
  rw [hG.out]
  refine late_some 0 [22] (by kernel_rfl) ?_
  refine List.forall_mem_cons.2 ⟨?_, List.forall_mem_cons.2 ⟨?_, List.forall_mem_nil _⟩⟩
  · refine ⟨by decide, _, rfl, fun K hK => ?_⟩
    have hg := gA W (.map #[] 0) none
    have HS2 := gT HS.out hg
    refine op_makeMap rfl _ rfl (hK _ _ HS2 ?_)
    have h := st_1_2 W.heap.size N ((W.alloc (.map #[] 0))) HS.out.size (uH (TabW.made W)) hN ((Nat.ne_of_gt HB.out.lt)) (HB.out.kept hg) (uH HS2)
    rw [hG.out] at h
    exact late_same (by kernel_rfl) (by kernel_rfl) h
  · refine ⟨by decide, _, rfl, fun K hK => ?_⟩
    obtain ⟨W2, hr, ht, hg⟩ := HB.out.put (by omega) (x := ByteArray.empty) (Nat.zero_le _) (z := hi) (by omega)
    have HS2 := gO HS.out hg (fun k hk => by cases hk; exact hN)
    refine op_insert rfl _ _ _ _ rfl hr (hK _ _ HS2 ?_)
    refine late_take (i := 23) (v := .map (some N)) ⟨by kernel_rfl, by kernel_rfl, by kernel_rfl, by decide⟩ rfl (by decide +kernel) (by decide +kernel) (by decide +kernel) (fun _ _ _ h => h) (Or.inl ⟨by rfl, fun W _ => by kernel_rfl⟩) HS2 ?_
    have h := st_0_4 N W2 hN (uH (ht.cong (oneX_a))) (uH HS2)
    rw [hG.out] at h
    exact late_same (by kernel_rfl) (by kernel_rfl) h
 have st_0_3 : ∀ (N : Nat) (W : World), w2.heap.size ≤ N → Hid (TabW W N 1 (fun m => if m = ByteArray.empty then hi else 0)) → Hid (w2.grownBy W none) → G 8 #[false, true, false, true, true, true, true, true, true, true, false, false, false, true, true, false, true, true, true, true, true, true, true, false, false, false, false] ⟨#[.agg #[.slice (some ⟨b, off, none⟩) l.length scap, cv], .string sn, .pointer (some ⟨w.heap.size, 0, none⟩), .pointer (some ⟨w.heap.size + 1, 0, none⟩), .slice none 0 0, .int .i64 q, .pointer (some ⟨w.heap.size, 0, none⟩), .slice (some ⟨b, off, none⟩) l.length scap, .func (.func 118) #[] #[.pointer (some ⟨w.heap.size + 1, 0, none⟩)], .int .i64 q, undef, .string sn, .pointer (some ⟨w.heap.size, 0, none⟩), .slice (some ⟨b, off, none⟩) l.length scap, .int .i64 q, .pointer (some ⟨b, off + q * 3, none⟩), .pointer (some ⟨b, off + q * 3 + 1, none⟩), .int .i64 lo, .int .i64 (-lo), undef, undef, .map (some N), .string sn, .pointer (some ⟨w.heap.size, 0, none⟩), .slice (some ⟨b, off, none⟩) l.length scap, .int .i64 q, .pointer (some ⟨b, off + q * 3, none⟩), .pointer (some ⟨b, off + q * 3 + 2, none⟩), .int .i64 hi, undef, undef, undef], []⟩ W := by
  intro N W hN HB HS
  rw [hG.out]
  refine late_some 0 [15] (by kernel_rfl) ?_
  refine List.forall_mem_cons.2 ⟨?_, List.forall_mem_cons.2 ⟨?_, List.forall_mem_nil _⟩⟩
  · refine ⟨by decide, _, rfl, fun K hK => ?_⟩
    have hg := gA W (.map #[] 0) none
    have HS2 := gT HS.out hg
    refine op_makeMap rfl _ rfl (hK _ _ HS2 ?_)
    have h := st_1_3 W.heap.size N ((W.alloc (.map #[] 0))) HS.out.size (uH (TabW.made W)) hN ((Nat.ne_of_gt HB.out.lt)) (HB.out.kept hg) (uH HS2)
    rw [hG.out] at h
    exact late_same (by kernel_rfl) (by kernel_rfl) h
  · refine ⟨by decide, _, rfl, fun K hK => ?_⟩
    obtain ⟨W2, hr, ht, hg⟩ := HB.out.put (by omega) (x := sn) h3 (z := (-1)) (by omega)
    have HS2 := gO HS.out hg (fun k hk => by cases hk; exact hN)
    refine op_insert rfl _ _ _ _ rfl hr (hK _ _ HS2 ?_)
    refine late_take (i := 23) (v := .map (some N)) ⟨by kernel_rfl, by kernel_rfl, by kernel_rfl, by decide⟩ rfl (by decide +kernel) (by decide +kernel) (by decide +kernel) (fun _ _ _ h => h) (Or.inl ⟨by rfl, fun W _ => by kernel_rfl⟩) HS2 ?_
    have h := st_0_4 N W2 hN (uH (ht.cong (oneX_b HNe.out))) (uH HS2)
    rw [hG.out] at h
    exact late_same (by kernel_rfl) (by kernel_rfl) h
 have st_1_1 : ∀ (M : Nat) (N : Nat) (W : World), w2.heap.size ≤ M → Hid (TabW W M 0 (fun _ => 0)) → w2.heap.size ≤ N → M ≠ N → Hid (TabW W N 0 (fun _ => 0)) → Hid (w2.grownBy W none) → G 8 #[true, true, false, true, true, true, true, true, true, true, false, false, false, true, true, false, true, true, true, true, true, true, false, false, false, false, false] ⟨#[.agg #[.slice (some ⟨b, off, none⟩) l.length scap, cv], .string sn, .pointer (some ⟨w.heap.size, 0, none⟩), .pointer (some ⟨w.heap.size + 1, 0, none⟩), .slice none 0 0, .int .i64 q, .pointer (some ⟨w.heap.size, 0, none⟩), .slice (some ⟨b, off, none⟩) l.length scap, .func (.func 118) #[] #[.pointer (some ⟨w.heap.size + 1, 0, none⟩)], .int .i64 q, .map (some M), .string sn, .pointer (some ⟨w.heap.size, 0, none⟩), .slice (some ⟨b, off, none⟩) l.length scap, .int .i64 q, .pointer (some ⟨b, off + q * 3, none⟩), .pointer (some ⟨b, off + q * 3 + 1, none⟩), .int .i64 lo, .int .i64 (-lo), undef, undef, .map (some N), .string sn, .pointer (some ⟨w.heap.size, 0, none⟩), .slice (some ⟨b, off, none⟩) l.length scap, .int .i64 q, .pointer (some ⟨b, off + q * 3, none⟩), .pointer (some ⟨b, off + q * 3 + 2, none⟩), .int .i64 hi, undef, undef, undef], []⟩ W := by
  intro M N W hM HA hN hne HB HS
  rw [hG.out]
  refine late_some 2 [10, 15, 22] (by kernel_rfl) ?_
  refine List.forall_mem_cons.2 ⟨?_, List.forall_mem_cons.2 ⟨?_, List.forall_mem_cons.2 ⟨?_, List.forall_mem_cons.2 ⟨?_, List.forall_mem_nil _⟩⟩⟩⟩
  · refine ⟨by decide, _, rfl, fun K hK => ?_⟩
    obtain ⟨W2, hr, ht, hg⟩ := HA.out.put (by omega) (x := sn) h3 (z := 1) (by omega)
    have HS2 := gO HS.out hg (fun k hk => by cases hk; exact hM)
    refine op_insert rfl _ _ _ _ rfl hr (hK _ _ HS2 ?_)
    have h := st_2_1 M N W2 hM (uH ht) hN hne (uH (HB.out.beside hg (fun e => hne e.symm))) (uH HS2)
    rw [hG.out] at h
    exact late_same (by kernel_rfl) (by kernel_rfl) h
  · refine ⟨by decide, _, rfl, fun K hK => ?_⟩
    obtain ⟨W2, hr, ht, hg⟩ := HA.out.put (by omega) (x := ByteArray.empty) (Nat.zero_le _) (z := (-lo)) (by omega)
    have HS2 := gO HS.out hg (fun k hk => by cases hk; exact hM)
    refine op_insert rfl _ _ _ _ rfl hr (hK _ _ HS2 ?_)
    have h := st_3_1 M N W2 hM (uH ht) hN hne (uH (HB.out.beside hg (fun e => hne e.symm))) (uH HS2)
    rw [hG.out] at h
    exact late_same (by kernel_rfl) (by kernel_rfl) h
  · refine ⟨by decide, _, rfl, fun K hK => ?_⟩
    obtain ⟨W2, hr, ht, hg⟩ := HB.out.put (by omega) (x := sn) h3 (z := (-1)) (by omega)
    have HS2 := gO HS.out hg (fun k hk => by cases hk; exact hN)
    refine op_insert rfl _ _ _ _ rfl hr (hK _ _ HS2 ?_)
    have h := st_1_2 M N W2 hM (uH (HA.out.beside hg hne)) hN hne (uH ht) (uH HS2)
    rw [hG.out] at h
    exact late_same (by kernel_rfl) (by kernel_rfl) h
  · refine ⟨by decide, _, rfl, fun K hK => ?_⟩
    obtain ⟨W2, hr, ht, hg⟩ := HB.out.put (by omega) (x := ByteArray.empty) (Nat.zero_le _) (z := hi) (by omega)
    have HS2 := gO HS.out hg (fun k hk => by cases hk; exact hN)
    refine op_insert rfl _ _ _ _ rfl hr (hK _ _ HS2 ?_)
    have h := st_1_3 M N W2 hM (uH (HA.out.beside hg hne)) hN hne (uH ht) (uH HS2)
    rw [hG.out] at h
    exact late_same (by kernel_rfl) (by kernel_rfl) h
 have st_2_0 : ∀ (M : Nat) (W : World), w2.heap.size ≤ M → Hid (TabW W M 1 (fun m => if m = sn then 1 else 0)) → Hid (w2.grownBy W none) → G 8 #[true, true, true, true, true, true, true, true, true, true, false, false, false, false, true, false, true, true, true, true, true, true, false, false, false, false, false] ⟨#[.agg #[.slice (some ⟨b, off, none⟩) l.length scap, cv], .string sn, .pointer (some ⟨w.heap.size, 0, none⟩), .pointer (some ⟨w.heap.size + 1, 0, none⟩), .slice none 0 0, .int .i64 q, .pointer (some ⟨w.heap.size, 0, none⟩), .slice (some ⟨b, off, none⟩) l.length scap, .func (.func 118) #[] #[.pointer (some ⟨w.heap.size + 1, 0, none⟩)], .int .i64 q, .map (some M), .string sn, .pointer (some ⟨w.heap.size, 0, none⟩), .slice (some ⟨b, off, none⟩) l.length scap, .int .i64 q, .pointer (some ⟨b, off + q * 3, none⟩), .pointer (some ⟨b, off + q * 3 + 1, none⟩), .int .i64 lo, .int .i64 (-lo), undef, undef, undef, .string sn, .pointer (some ⟨w.heap.size, 0, none⟩), .slice (some ⟨b, off, none⟩) l.length scap, .int .i64 q, .pointer (some ⟨b, off + q * 3, none⟩), .pointer (some ⟨b, off + q * 3 + 2, none⟩), .int .i64 hi, undef, undef, undef], []⟩ W := by
  intro M W hM HA HS
  rw [hG.out]
  refine late_some 10 [13] (by kernel_rfl) ?_
  refine List.forall_mem_cons.2 ⟨?_, List.forall_mem_cons.2 ⟨?_, List.forall_mem_nil _⟩⟩
  · refine ⟨by decide, _, rfl, fun K hK => ?_⟩
    obtain ⟨W2, hr, ht, hg⟩ := HA.out.put (by omega) (x := ByteArray.empty) (Nat.zero_le _) (z := (-lo)) (by omega)
    have HS2 := gO HS.out hg (fun k hk => by cases hk; exact hM)
    refine op_insert rfl _ _ _ _ rfl hr (hK _ _ HS2 ?_)
    refine late_take (i := 11) (v := .map (some M)) ⟨by kernel_rfl, by kernel_rfl, by kernel_rfl, by decide⟩ rfl (by decide +kernel) (by decide +kernel) (by decide +kernel) (fun _ _ _ h => h) (Or.inl ⟨by rfl, fun W _ => by kernel_rfl⟩) HS2 ?_
    have h := st_4_0 M W2 hM (uH (ht.cong (oneX_a))) (uH HS2)
    rw [hG.out] at h
    exact late_same (by kernel_rfl) (by kernel_rfl) h
  · refine ⟨by decide, _, rfl, fun K hK => ?_⟩
    have hg := gA W (.map #[] 0) none
    have HS2 := gT HS.out hg
    refine op_makeMap rfl _ rfl (hK _ _ HS2 ?_)
    have h := st_2_1 M W.heap.size ((W.alloc (.map #[] 0))) hM (HA.out.kept hg) HS.out.size ((Nat.ne_of_lt HA.out.lt)) (uH (TabW.made W)) (uH HS2)
    rw [hG.out] at h
    exact late_same (by kernel_rfl) (by kernel_rfl) h
 have st_3_0 : ∀ (M : Nat) (W : World), w2.heap.size ≤ M → Hid (TabW W M 1 (fun m => if m = ByteArray.empty then -lo else 0)) → Hid (w2.grownBy W none) → G 8 #[true, true, false, true, true, true, true, true, true, true, true, false, false, false, true, false, true, true, true, true, true, true, false, false, false, false, false] ⟨#[.agg #[.slice (some ⟨b, off, none⟩) l.length scap, cv], .string sn, .pointer (some ⟨w.heap.size, 0, none⟩), .pointer (some ⟨w.heap.size + 1, 0, none⟩), .slice none 0 0, .int .i64 q, .pointer (some ⟨w.heap.size, 0, none⟩), .slice (some ⟨b, off, none⟩) l.length scap, .func (.func 118) #[] #[.pointer (some ⟨w.heap.size + 1, 0, none⟩)], .int .i64 q, .map (some M), .string sn, .pointer (some ⟨w.heap.size, 0, none⟩), .slice (some ⟨b, off, none⟩) l.length scap, .int .i64 q, .pointer (some ⟨b, off + q * 3, none⟩), .pointer (some ⟨b, off + q * 3 + 1, none⟩), .int .i64 lo, .int .i64 (-lo), undef, undef, undef, .string sn, .pointer (some ⟨w.heap.size, 0, none⟩), .slice (some ⟨b, off, none⟩) l.length scap, .int .i64 q, .pointer (some ⟨b, off + q * 3, none⟩), .pointer (some ⟨b, off + q * 3 + 2, none⟩), .int .i64 hi, undef, undef, undef], []⟩ W := by
  intro M W hM HA HS
  rw [hG.out]
  refine late_some 2 [13] (by kernel_rfl) ?_
  refine List.forall_mem_cons.2 ⟨?_, List.forall_mem_cons.2 ⟨?_, List.forall_mem_nil _⟩⟩
  · refine ⟨by decide, _, rfl, fun K hK => ?_⟩
    obtain ⟨W2, hr, ht, hg⟩ := HA.out.put (by omega) (x := sn) h3 (z := 1) (by omega)
    have HS2 := gO HS.out hg (fun k hk => by cases hk; exact hM)
    refine op_insert rfl _ _ _ _ rfl hr (hK _ _ HS2 ?_)
    refine late_take (i := 11) (v := .map (some M)) ⟨by kernel_rfl, by kernel_rfl, by kernel_rfl, by decide⟩ rfl (by decide +kernel) (by decide +kernel) (by decide +kernel) (fun _ _ _ h => h) (Or.inl ⟨by rfl, fun W _ => by kernel_rfl⟩) HS2 ?_
    have h := st_4_0 M W2 hM (uH (ht.cong (oneX_b HNe.out))) (uH HS2)
    rw [hG.out] at h
    exact late_same (by kernel_rfl) (by kernel_rfl) h
  · refine ⟨by decide, _, rfl, fun K hK => ?_⟩
    have hg := gA W (.map #[] 0) none
    have HS2 := gT HS.out hg
    refine op_makeMap rfl _ rfl (hK _ _ HS2 ?_)
    have h := st_3_1 M W.heap.size ((W.alloc (.map #[] 0))) hM (HA.out.kept hg) HS.out.size ((Nat.ne_of_lt HA.out.lt)) (uH (TabW.made W)) (uH HS2)
    rw [hG.out] at h
    exact late_same (by kernel_rfl) (by kernel_rfl) h
 have st_0_1 : ∀ (N : Nat) (W : World), w2.heap.size ≤ N → Hid (TabW W N 0 (fun _ => 0)) → Hid (w2.grownBy W none) → G 9 #[false, true, false, true, true, true, true, true, true, true, false, false, false, true, true, false, true, true, true, true, true, true, false, false, false, false, false] ⟨#[.agg #[.slice (some ⟨b, off, none⟩) l.length scap, cv], .string sn, .pointer (some ⟨w.heap.size, 0, none⟩), .pointer (some ⟨w.heap.size + 1, 0, none⟩), .slice none 0 0, .int .i64 q, .pointer (some ⟨w.heap.size, 0, none⟩), .slice (some ⟨b, off, none⟩) l.length scap, .func (.func 118) #[] #[.pointer (some ⟨w.heap.size + 1, 0, none⟩)], .int .i64 q, undef, .string sn, .pointer (some ⟨w.heap.size, 0, none⟩), .slice (some ⟨b, off, none⟩) l.length scap, .int .i64 q, .pointer (some ⟨b, off + q * 3, none⟩), .pointer (some ⟨b, off + q * 3 + 1, none⟩), .int .i64 lo, .int .i64 (-lo), undef, undef, .map (some N), .string sn, .pointer (some ⟨w.heap.size, 0, none⟩), .slice (some ⟨b, off, none⟩) l.length scap, .int .i64 q, .pointer (some ⟨b, off + q * 3, none⟩), .pointer (some ⟨b, off + q * 3 + 2, none⟩), .int .i64 hi, undef, undef, undef], []⟩ W := by
  intro N W hN HB HS
  rw [hG.out]
  refine late_some 0 [15, 22] (by kernel_rfl) ?_
  refine List.forall_mem_cons.2 ⟨?_, List.forall_mem_cons.2 ⟨?_, List.forall_mem_cons.2 ⟨?_, List.forall_mem_nil _⟩⟩⟩
  · refine ⟨by decide, _, rfl, fun K hK => ?_⟩
    have hg := gA W (.map #[] 0) none
    have HS2 := gT HS.out hg
    refine op_makeMap rfl _ rfl (hK _ _ HS2 ?_)
    have h := st_1_1 W.heap.size N ((W.alloc (.map #[] 0))) HS.out.size (uH (TabW.made W)) hN ((Nat.ne_of_gt HB.out.lt)) (HB.out.kept hg) (uH HS2)
    rw [hG.out] at h
    exact late_same (by kernel_rfl) (by kernel_rfl) h
  · refine ⟨by decide, _, rfl, fun K hK => ?_⟩
    obtain ⟨W2, hr, ht, hg⟩ := HB.out.put (by omega) (x := sn) h3 (z := (-1)) (by omega)
    have HS2 := gO HS.out hg (fun k hk => by cases hk; exact hN)
    refine op_insert rfl _ _ _ _ rfl hr (hK _ _ HS2 ?_)
    have h := st_0_2 N W2 hN (uH ht) (uH HS2)
    rw [hG.out] at h
    exact late_same (by kernel_rfl) (by kernel_rfl) h
  · refine ⟨by decide, _, rfl, fun K hK => ?_⟩
    obtain ⟨W2, hr, ht, hg⟩ := HB.out.put (by omega) (x := ByteArray.empty) (Nat.zero_le _) (z := hi) (by omega)
    have HS2 := gO HS.out hg (fun k hk => by cases hk; exact hN)
    refine op_insert rfl _ _ _ _ rfl hr (hK _ _ HS2 ?_)
    have h := st_0_3 N W2 hN (uH ht) (uH HS2)
    rw [hG.out] at h
    exact late_same (by kernel_rfl) (by kernel_rfl) h
 have st_1_0 : ∀ (M : Nat) (W : World), w2.heap.size ≤ M → Hid (TabW W M 0 (fun _ => 0)) → Hid (w2.grownBy W none) → G 9 #[true, true, false, true, true, true, true, true, true, true, false, false, false, false, true, false, true, true, true, true, true, true, false, false, false, false, false] ⟨#[.agg #[.slice (some ⟨b, off, none⟩) l.length scap, cv], .string sn, .pointer (some ⟨w.heap.size, 0, none⟩), .pointer (some ⟨w.heap.size + 1, 0, none⟩), .slice none 0 0, .int .i64 q, .pointer (some ⟨w.heap.size, 0, none⟩), .slice (some ⟨b, off, none⟩) l.length scap, .func (.func 118) #[] #[.pointer (some ⟨w.heap.size + 1, 0, none⟩)], .int .i64 q, .map (some M), .string sn, .pointer (some ⟨w.heap.size, 0, none⟩), .slice (some ⟨b, off, none⟩) l.length scap, .int .i64 q, .pointer (some ⟨b, off + q * 3, none⟩), .pointer (some ⟨b, off + q * 3 + 1, none⟩), .int .i64 lo, .int .i64 (-lo), undef, undef, undef, .string sn, .pointer (some ⟨w.heap.size, 0, none⟩), .slice (some ⟨b, off, none⟩) l.length scap, .int .i64 q, .pointer (some ⟨b, off + q * 3, none⟩), .pointer (some ⟨b, off + q * 3 + 2, none⟩), .int .i64 hi, undef, undef, undef], []⟩ W := by
  intro M W hM HA HS
  rw [hG.out]
  refine late_some 2 [10, 13] (by kernel_rfl) ?_
  refine List.forall_mem_cons.2 ⟨?_, List.forall_mem_cons.2 ⟨?_, List.forall_mem_cons.2 ⟨?_, List.forall_mem_nil _⟩⟩⟩
  · refine ⟨by decide, _, rfl, fun K hK => ?_⟩
    obtain ⟨W2, hr, ht, hg⟩ := HA.out.put (by omega) (x := sn) h3 (z := 1) (by omega)
    have HS2 := gO HS.out hg (fun k hk => by cases hk; exact hM)
    refine op_insert rfl _ _ _ _ rfl hr (hK _ _ HS2 ?_)
    have h := st_2_0 M W2 hM (uH ht) (uH HS2)
    rw [hG.out] at h
    exact late_same (by kernel_rfl) (by kernel_rfl) h
  · refine ⟨by decide, _, rfl, fun K hK => ?_⟩
    obtain ⟨W2, hr, ht, hg⟩ := HA.out.put (by omega) (x := ByteArray.empty) (Nat.zero_le _) (z := (-lo)) (by omega)
    have HS2 := gO HS.out hg (fun k hk => by cases hk; exact hM)
    refine op_insert rfl _ _ _ _ rfl hr (hK _ _ HS2 ?_)
    have h := st_3_0 M W2 hM (uH ht) (uH HS2)
    rw [hG.out] at h
    exact late_same (by kernel_rfl) (by kernel_rfl) h
  · refine ⟨by decide, _, rfl, fun K hK => ?_⟩
    have hg := gA W (.map #[] 0) none
    have HS2 := gT HS.out hg
    refine op_makeMap rfl _ rfl (hK _ _ HS2 ?_)
    have h := st_1_1 M W.heap.size ((W.alloc (.map #[] 0))) hM (HA.out.kept hg) HS.out.size ((Nat.ne_of_lt HA.out.lt)) (uH (TabW.made W)) (uH HS2)
    rw [hG.out] at h
    exact late_same (by kernel_rfl) (by kernel_rfl) h
 have st_0_0 : ∀  (W : World), Hid (w2.grownBy W none) → G 10 #[false, true, false, true, true, true, true, true, true, true, false, false, false, false, true, false, true, true, true, true, true, true, false, false, false, false, false] ⟨#[.agg #[.slice (some ⟨b, off, none⟩) l.length scap, cv], .string sn, .pointer (some ⟨w.heap.size, 0, none⟩), .pointer (some ⟨w.heap.size + 1, 0, none⟩), .slice none 0 0, .int .i64 q, .pointer (some ⟨w.heap.size, 0, none⟩), .slice (some ⟨b, off, none⟩) l.length scap, .func (.func 118) #[] #[.pointer (some ⟨w.heap.size + 1, 0, none⟩)], .int .i64 q, undef, .string sn, .pointer (some ⟨w.heap.size, 0, none⟩), .slice (some ⟨b, off, none⟩) l.length scap, .int .i64 q, .pointer (some ⟨b, off + q * 3, none⟩), .pointer (some ⟨b, off + q * 3 + 1, none⟩), .int .i64 lo, .int .i64 (-lo), undef, undef, undef, .string sn, .pointer (some ⟨w.heap.size, 0, none⟩), .slice (some ⟨b, off, none⟩) l.length scap, .int .i64 q, .pointer (some ⟨b, off + q * 3, none⟩), .pointer (some ⟨b, off + q * 3 + 2, none⟩), .int .i64 hi, undef, undef, undef], []⟩ W := by
  intro W HS
  rw [hG.out]
  refine late_some 0 [13] (by kernel_rfl) ?_
  refine List.forall_mem_cons.2 ⟨?_, List.forall_mem_cons.2 ⟨?_, List.forall_mem_nil _⟩⟩
  · refine ⟨by decide, _, rfl, fun K hK => ?_⟩
    have hg := gA W (.map #[] 0) none
    have HS2 := gT HS.out hg
    refine op_makeMap rfl _ rfl (hK _ _ HS2 ?_)
    have h := st_1_0 W.heap.size ((W.alloc (.map #[] 0))) HS.out.size (uH (TabW.made W)) (uH HS2)
    rw [hG.out] at h
    exact late_same (by kernel_rfl) (by kernel_rfl) h
  · refine ⟨by decide, _, rfl, fun K hK => ?_⟩
    have hg := gA W (.map #[] 0) none
    have HS2 := gT HS.out hg
    refine op_makeMap rfl _ rfl (hK _ _ HS2 ?_)
    have h := st_0_1 W.heap.size ((W.alloc (.map #[] 0))) HS.out.size (uH (TabW.made W)) (uH HS2)
    rw [hG.out] at h
    exact late_same (by kernel_rfl) (by kernel_rfl) h
 exact st_0_0 _ HS0.out
end Go.Proofs.YtgeklmigfhhpfaaGreatDoor
